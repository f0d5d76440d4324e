package tests

import (
	"math/big"
	"regexp"
	"slices"
	"strings"

	"loop.example/s01854/impl"
)

// The model of filters has them as trees with links, reads their text by a table of states with a stack of operators, and takes the nesting from the print itself.

type tree struct {
	node impl.Node
	kids []*tree
}

func leaf(n impl.Node) *tree { return &tree{node: n} }

func bare(kind int64) *tree { return leaf(impl.Node{Kind: kind}) }

func counter(kind, n int64) *tree { return leaf(impl.Node{Kind: kind, N: n}) }

func patternLeaf(kind int64, p string) *tree { return leaf(impl.Node{Kind: kind, S: p}) }

func chained(a, b *tree) *tree {
	return &tree{node: impl.Node{Kind: impl.NodeChain}, kids: []*tree{a, b}}
}

func united(a, b *tree) *tree {
	return &tree{node: impl.Node{Kind: impl.NodeInter}, kids: []*tree{a, b}}
}

func chosen(p, a, b *tree) *tree {
	return &tree{node: impl.Node{Kind: impl.NodeIf}, kids: []*tree{p, a, b}}
}

func (t *tree) postfix() []impl.Node {
	var nodes []impl.Node
	for _, k := range t.kids {
		nodes = append(nodes, k.postfix()...)
	}
	return append(nodes, t.node)
}

func (t *tree) filter() impl.Filter { return impl.Filter{Nodes: t.postfix()} }

// modelTree reads the nodes from the last one back.
func modelTree(nodes []impl.Node) *tree {
	rest := nodes
	var read func() *tree
	read = func() *tree {
		if len(rest) == 0 {
			return nil
		}
		t := leaf(rest[len(rest)-1])
		rest = rest[:len(rest)-1]
		n := map[int64]int{14: 2, 15: 2, 16: 3}[t.node.Kind]
		t.kids = make([]*tree, n)
		for i := n - 1; i >= 0; i-- {
			if t.kids[i] = read(); t.kids[i] == nil {
				return nil
			}
		}
		return t
	}
	whole := read()
	if len(rest) > 0 {
		return nil
	}
	return whole
}

func modelNode(n impl.Node) bool {
	named := map[int64]string{1: "", 2: "", 3: "", 4: "S", 5: "S", 6: "S", 7: "S", 8: "S HasHi T", 9: "S HasHi T", 10: "Lo HasHi Hi", 11: "N", 12: "N", 13: "N", 14: "", 15: "", 16: ""}
	fields, known := named[n.Kind]
	if !known {
		return false
	}
	for name, set := range map[string]bool{"S": n.S != "", "HasHi": n.HasHi, "T": n.T != "", "Lo": n.Lo != 0, "Hi": n.Hi != 0, "N": n.N != 0} {
		if set && !slices.Contains(strings.Fields(fields), name) {
			return false
		}
	}
	if len(n.S) > 200 || len(n.T) > 200 || !n.HasHi && (n.T != "" || n.Hi != 0) {
		return false
	}
	switch n.Kind {
	case 4, 5, 6, 7:
		err, _ := modelFault(n.S)
		return err == 0
	case 8, 9:
		return !n.HasHi || modelText(n.S, n.T) < 0
	case 10:
		return !n.HasHi || n.Lo < n.Hi
	case 11, 12, 13:
		return n.N >= 1 && n.N <= 1000
	}
	return true
}

func modelValid(f impl.Filter) bool {
	if len(f.Nodes) < 1 || len(f.Nodes) > 200 {
		return false
	}
	for _, n := range f.Nodes {
		if !modelNode(n) {
			return false
		}
	}
	t := modelTree(f.Nodes)
	return t != nil && mostOpen(t.print()) <= 20
}

// mostOpen counts the parentheses of a print that are open at once; those in a STR do not count.
func mostOpen(text string) int {
	open, most := 0, 0
	for _, b := range regexp.MustCompile(`"(\\.|[^"\\])*"`).ReplaceAllString(text, "") {
		switch b {
		case '(':
			open++
		case ')':
			open--
		}
		most = max(most, open)
	}
	return most
}

func modelQuoted(s string) string {
	text := `"`
	for i := range len(s) {
		switch b := s[i]; {
		case b == '"':
			text += `\"`
		case b == '\\':
			text += `\\`
		case b < 32 || b > 126:
			text += `\x` + string("0123456789abcdef"[b/16]) + string("0123456789abcdef"[b%16])
		default:
			text += string(rune(b))
		}
	}
	return text + `"`
}

func decimal(n uint64) string { return new(big.Int).SetUint64(n).String() }

var modelWords = []string{"", "pass", "block", "strip", "row", "fam", "qual", "val", "rows", "quals", "ts", "versions", "cells", "skip", "", "", "if"}

func (t *tree) print() string {
	n := t.node
	word := modelWords[n.Kind]
	switch n.Kind {
	case 4, 5, 6, 7:
		return word + " " + modelQuoted(n.S)
	case 8, 9, 10:
		low, high := "", ""
		if n.S != "" {
			low = modelQuoted(n.S)
		}
		if n.Lo != 0 {
			low = decimal(n.Lo)
		}
		if n.HasHi && n.Kind == 10 {
			high = decimal(n.Hi)
		} else if n.HasHi {
			high = modelQuoted(n.T)
		}
		return word + " " + low + ".." + high
	case 11, 12, 13:
		return word + " " + decimal(uint64(n.N))
	case 14:
		return t.kids[0].operand(2) + " > " + t.kids[1].operand(3)
	case 15:
		return t.kids[0].operand(1) + " | " + t.kids[1].operand(2)
	case 16:
		return "if(" + t.kids[0].print() + ", " + t.kids[1].print() + ", " + t.kids[2].print() + ")"
	}
	return word
}

// operand is the print where a strength of at least so much may stand without parentheses.
func (t *tree) operand(least int) string {
	strength := 3
	switch t.node.Kind {
	case 14:
		strength = 2
	case 15:
		strength = 1
	}
	if strength < least {
		return "(" + t.print() + ")"
	}
	return t.print()
}

func (t *tree) is(kind int64) bool { return t.node.Kind == kind }

func (t *tree) same(o *tree) bool { return slices.Equal(t.postfix(), o.postfix()) }

func (t *tree) normal() *tree {
	var k []*tree
	for _, kid := range t.kids {
		k = append(k, kid.normal())
	}
	switch t.node.Kind {
	case 14:
		if k[0].is(1) {
			return k[1]
		}
		if k[1].is(1) {
			return k[0]
		}
		if k[0].is(2) || k[1].is(2) {
			return bare(2)
		}
		if k[0].is(3) && k[1].is(3) {
			return bare(3)
		}
	case 15:
		if k[0].is(2) {
			return k[1]
		}
		if k[1].is(2) {
			return k[0]
		}
		if k[0].is(1) {
			return bare(1)
		}
		if k[0].same(k[1]) {
			return k[0]
		}
	case 16:
		if k[0].is(1) {
			return k[1]
		}
		if k[0].is(2) {
			return k[2]
		}
		if k[1].same(k[2]) {
			return k[1]
		}
	}
	return &tree{node: t.node, kids: k}
}

// filterModel is the meaning, cell by cell as the document says it; patterns are matched by the grammar's model.
type filterModel struct {
	*grammarModel
}

func (m filterModel) meaning(t *tree, cells []impl.Cell) []impl.Cell {
	var told, row []impl.Cell
	for i, c := range cells {
		row = append(row, c)
		if i+1 == len(cells) || cells[i+1].Row != c.Row {
			told = append(told, m.ofRow(t, row)...)
			row = nil
		}
	}
	return told
}

func (m filterModel) ofRow(t *tree, list []impl.Cell) []impl.Cell {
	switch t.node.Kind {
	case 14:
		return m.ofRow(t.kids[1], m.ofRow(t.kids[0], list))
	case 15:
		return modelUnion(m.ofRow(t.kids[0], list), m.ofRow(t.kids[1], list))
	case 16:
		if len(m.ofRow(t.kids[0], list)) > 0 {
			return m.ofRow(t.kids[1], list)
		}
		return m.ofRow(t.kids[2], list)
	}
	var out []impl.Cell
	for i, c := range list {
		if !m.lets(t.node, list, i) {
			continue
		}
		if t.is(3) {
			c.Val = ""
		}
		out = append(out, c)
	}
	return out
}

func (m filterModel) lets(n impl.Node, list []impl.Cell, i int) bool {
	c := list[i]
	switch n.Kind {
	case 1, 3:
		return true
	case 4:
		return m.altMatches(n.S, c.Row)
	case 5:
		return m.altMatches(n.S, c.Fam)
	case 6:
		return m.altMatches(n.S, c.Qual)
	case 7:
		return m.altMatches(n.S, c.Val)
	case 8:
		return modelIn(impl.Range{Lo: n.S, HasHi: n.HasHi, Hi: n.T}, c.Row)
	case 9:
		return modelIn(impl.Range{Lo: n.S, HasHi: n.HasHi, Hi: n.T}, c.Qual)
	case 10:
		return c.Ts >= n.Lo && !(n.HasHi && c.Ts >= n.Hi)
	case 11:
		before := int64(0)
		for _, o := range list[:i] {
			if o.Fam == c.Fam && o.Qual == c.Qual {
				before++
			}
		}
		return before < n.N
	case 12:
		return int64(i) < n.N
	case 13:
		return int64(i) >= n.N
	}
	return false
}

func asPut(c impl.Cell) impl.Entry { return put(c.Row, c.Fam, c.Qual, c.Ts, c.Val) }

func modelUnion(a, b []impl.Cell) []impl.Cell {
	var all []impl.Entry
	for _, c := range slices.Concat(a, b) {
		known := slices.ContainsFunc(all, func(e impl.Entry) bool { return modelCompare(e, asPut(c)) == 0 })
		if !known {
			all = append(all, asPut(c))
		}
	}
	return cellsOf(modelSort(all)...)
}

// modelToken is a token by its sort: w for a word, 0 for a NUM, s for a STR, e for the end, else the sign itself.
type modelToken struct {
	sort string
	at   int
	kind int64
	num  uint64
	text string
	size int
}

var (
	wordForm = regexp.MustCompile(`^[a-z]+`)
	numForm  = regexp.MustCompile(`^[0-9]+`)
	strForm  = regexp.MustCompile(`^"([ !#-\[\]-~]|\\["\\]|\\x[0-9a-f][0-9a-f])*"`)
	signForm = regexp.MustCompile(`^([(),>|]|\.\.)`)
)

// modelScan gives the first token of text behind its spaces; at is where text stands in the whole.
func modelScan(text string, at int) (modelToken, bool) {
	spaces := len(text) - len(strings.TrimLeft(text, " "))
	rest := text[spaces:]
	t := modelToken{at: at + spaces, sort: "e", size: spaces}
	if rest == "" {
		return t, true
	}
	if word := wordForm.FindString(rest); word != "" {
		t.sort, t.kind = "w", int64(slices.Index(modelWords, word))
		t.size += len(word)
		return t, t.kind > 0
	}
	if digits := numForm.FindString(rest); digits != "" {
		value, _ := new(big.Int).SetString(digits, 10)
		t.sort, t.num = "0", value.Uint64()
		t.size += len(digits)
		return t, value.IsUint64() && value.String() == digits
	}
	if str := strForm.FindString(rest); str != "" {
		t.sort, t.text = "s", modelContent(str[1:len(str)-1])
		t.size += len(str)
		return t, len(t.text) <= 200
	}
	t.sort = signForm.FindString(rest)
	t.size += len(t.sort)
	return t, t.sort != ""
}

func modelContent(pieces string) string {
	var content []byte
	for pieces != "" {
		size, b := 1, pieces[0]
		if strings.HasPrefix(pieces, `\x`) {
			size = 4
			b = byte(strings.IndexByte("0123456789abcdef", pieces[2])*16 + strings.IndexByte("0123456789abcdef", pieces[3]))
		} else if b == '\\' {
			size, b = 2, pieces[1]
		}
		content = append(content, b)
		pieces = pieces[size:]
	}
	return string(content)
}

// modelParser: wait is what may come next; open has for each open parenthesis the commas that are still to come, or -1 for one of no if; signs are the operators that wait, with "(" for each open one.
type modelParser struct {
	wait  string
	leaf  impl.Node
	open  []int
	signs []string
	made  int
	out   []impl.Node
}

func modelParse(text string) impl.FilterRes {
	if len(text) > 4000 {
		return impl.FilterRes{Err: 1}
	}
	p := &modelParser{wait: "prim"}
	at := 0
	for {
		token, ok := modelScan(text[at:], at)
		if !ok {
			return impl.FilterRes{Err: 2, At: int64(token.at)}
		}
		if err := p.step(token); err != 0 {
			return impl.FilterRes{Err: err, At: int64(token.at)}
		}
		if token.sort == "e" {
			return impl.FilterRes{Filter: impl.Filter{Nodes: p.out}}
		}
		at += token.size
	}
}

func (p *modelParser) step(t modelToken) int64 {
	rangeSort := map[int64]string{8: "s", 9: "s", 10: "0"}[p.leaf.Kind]
	switch {
	case p.wait == "prim" && t.sort == "w":
		return p.word(t)
	case p.wait == "prim" && t.sort == "(", p.wait == "(" && t.sort == "(":
		if len(p.open) == 20 {
			return 4
		}
		p.open = append(p.open, map[string]int{"prim": -1, "(": 2}[p.wait])
		p.signs = append(p.signs, "(")
		p.wait = "prim"
	case p.wait == "pattern" && t.sort == "s":
		if err, _ := modelFault(t.text); err != 0 {
			return 6
		}
		p.leaf.S = t.text
		p.end()
	case p.wait == "count" && t.sort == "0":
		if t.num < 1 || t.num > 1000 {
			return 8
		}
		p.leaf.N = int64(t.num)
		p.end()
	case p.wait == "low" && t.sort == rangeSort:
		p.leaf.S, p.leaf.Lo = t.text, t.num
		p.wait = "dots"
	case (p.wait == "low" || p.wait == "dots") && t.sort == "..":
		p.wait = "high"
	case p.wait == "high" && t.sort == rangeSort:
		if rangeSort == "s" && modelText(p.leaf.S, t.text) >= 0 || rangeSort == "0" && p.leaf.Lo >= t.num {
			return 7
		}
		p.leaf.HasHi, p.leaf.T, p.leaf.Hi = true, t.text, t.num
		p.end()
	case p.wait == "high" || p.wait == "sign":
		if !p.fits(t.sort) {
			return 3
		}
		if p.wait == "high" {
			p.end()
		}
		return p.sign(t.sort)
	default:
		return 3
	}
	return 0
}

func (p *modelParser) word(t modelToken) int64 {
	if p.made == 200 {
		return 5
	}
	p.made++
	p.leaf = impl.Node{Kind: t.kind}
	waits := map[int64]string{4: "pattern", 5: "pattern", 6: "pattern", 7: "pattern", 8: "low", 9: "low", 10: "low", 11: "count", 12: "count", 13: "count", 16: "("}
	p.wait = waits[t.kind]
	if p.wait == "" {
		p.end()
	}
	return 0
}

func (p *modelParser) end() {
	p.out = append(p.out, p.leaf)
	p.leaf = impl.Node{}
	p.wait = "sign"
}

func (p *modelParser) fits(sort string) bool {
	inner := -2
	if len(p.open) > 0 {
		inner = p.open[len(p.open)-1]
	}
	switch sort {
	case ">", "|":
		return true
	case ",":
		return inner > 0
	case ")":
		return inner == 0 || inner == -1
	case "e":
		return inner == -2
	}
	return false
}

// pour lets out the operators that wait and bind at least as strongly.
func (p *modelParser) pour(which string) {
	for len(p.signs) > 0 {
		top := p.signs[len(p.signs)-1]
		if !strings.Contains(which, top) {
			return
		}
		p.signs = p.signs[:len(p.signs)-1]
		p.out = append(p.out, impl.Node{Kind: map[string]int64{">": 14, "|": 15}[top]})
	}
}

func (p *modelParser) sign(sort string) int64 {
	switch sort {
	case ">", "|":
		if p.made == 200 {
			return 5
		}
		p.made++
		p.pour(map[string]string{">": ">", "|": ">|"}[sort])
		p.signs = append(p.signs, sort)
		p.wait = "prim"
	case ",":
		p.pour(">|")
		p.open[len(p.open)-1]--
		p.wait = "prim"
	case ")":
		p.pour(">|")
		p.signs = p.signs[:len(p.signs)-1]
		if p.open[len(p.open)-1] == 0 {
			p.out = append(p.out, impl.Node{Kind: 16})
		}
		p.open = p.open[:len(p.open)-1]
	case "e":
		p.pour(">|")
	}
	return 0
}

var drawnPatterns = []string{"", "a", "b*", "a|b", ".", "[^a]", "(ab)*", "a.*", "b?\\a", "[a-b]+", ".*b", "\xff", "\"\\\\", "()", "a+|()b"}

func drawText(d *dice, letters string) string {
	var s []byte
	for range d.roll(4) {
		s = append(s, letters[d.roll(len(letters))])
	}
	return string(s)
}

// drawLeaf draws texts of the letters; with all 256 of them most are not readable as they stand.
func drawLeaf(d *dice, letters string) *tree {
	n := impl.Node{Kind: int64(1 + d.roll(13))}
	switch n.Kind {
	case 4, 5, 6, 7:
		n.S = pick(d, drawnPatterns)
	case 8, 9:
		n.S = drawText(d, letters)
		n.T = drawText(d, letters)
		n.HasHi = modelText(n.S, n.T) < 0 && d.roll(3) > 0
		if !n.HasHi {
			n.T = ""
		}
	case 10:
		n.Lo = pick(d, []uint64{0, 0, 1, 2, 3, 5, 1<<64 - 2, 1<<64 - 1})
		n.Hi = pick(d, []uint64{1, 2, 3, 4, 5, 10, 1<<64 - 1})
		n.HasHi = n.Lo < n.Hi && d.roll(3) > 0
		if !n.HasHi {
			n.Hi = 0
		}
	case 11, 12, 13:
		n.N = pick(d, []int64{1, 1, 1, 2, 2, 3, 4, 1000})
	}
	return leaf(n)
}

func drawTree(d *dice, leaves int, letters string) *tree {
	if leaves == 1 {
		return drawLeaf(d, letters)
	}
	left := 1 + d.roll(leaves-1)
	a := drawTree(d, left, letters)
	b := drawTree(d, leaves-left, letters)
	switch d.roll(5) {
	case 0, 1:
		return chained(a, b)
	case 2, 3:
		return united(a, b)
	}
	return chosen(drawTree(d, 1+d.roll(2), letters), a, b)
}

// drawCells gives valid cells of few rows and columns with several versions.
func drawCells(d *dice, n int) []impl.Cell {
	var entries []impl.Entry
	for range n {
		e := put(pick(d, []string{"a", "ab", "b"}), pick(d, []string{"a", "b"}), pick(d, []string{"", "a", "ab", "b"}), uint64(d.roll(6)), pick(d, []string{"", "a", "b", "ab"}))
		known := slices.ContainsFunc(entries, func(o impl.Entry) bool { return modelCompare(o, e) == 0 })
		if !known {
			entries = append(entries, e)
		}
	}
	return cellsOf(modelSort(entries)...)
}

const allReadable = "ab\"\\ (),>|.x0~\x7f"

func allBytes() string {
	var s []byte
	for b := range 256 {
		s = append(s, byte(b))
	}
	return string(s)
}
