package tests

import (
	"slices"
	"strconv"
	"strings"

	"loop.example/s01854/impl"
)

// The model of code emits lists that are laid behind one another, finds what stands before an if by the way from the root, goes all ways through a block with every number of items, and moves its cursor cell by cell.

// laidBehind moves the targets of the second list.
func laidBehind(first []impl.Ins, second ...impl.Ins) []impl.Ins {
	whole := slices.Clone(first)
	for _, ins := range second {
		if ins.Op == 5 || ins.Op == 6 {
			ins.B += int64(len(first))
		}
		whole = append(whole, ins)
	}
	return whole
}

// compileModel knows an if by its way from the root: a digit for each operand that the way takes.
type compileModel struct {
	root    *tree
	numbers map[string]int64
	ways    []string
}

func (m *compileModel) number(t *tree, way string) {
	for i, k := range t.kids {
		m.number(k, way+strconv.Itoa(i))
		if t.is(16) && i == 0 {
			m.numbers[way] = int64(len(m.ways))
			m.ways = append(m.ways, way)
		}
	}
}

func (m *compileModel) gen(t *tree, way string, seen bool) ([]impl.Ins, bool) {
	switch t.node.Kind {
	case 14:
		a, seenA := m.gen(t.kids[0], way+"0", seen)
		b, seenB := m.gen(t.kids[1], way+"1", seenA)
		return laidBehind(a, b...), seenB
	case 15:
		a, seenA := m.gen(t.kids[0], way+"0", seen)
		b, seenB := m.gen(t.kids[1], way+"1", seen)
		left := laidBehind(laidBehind([]impl.Ins{{Op: 2}}, a...), impl.Ins{Op: 3})
		return laidBehind(laidBehind(left, b...), impl.Ins{Op: 4}), seenA || seenB
	case 16:
		a, seenA := m.gen(t.kids[1], way+"1", seen)
		b, seenB := m.gen(t.kids[2], way+"2", seen)
		first := laidBehind([]impl.Ins{{Op: 5, A: m.numbers[way], B: int64(len(a) + 2)}}, a...)
		return laidBehind(laidBehind(first, impl.Ins{Op: 6, B: int64(len(b) + 1)}), b...), seenA || seenB
	}
	isCounter := t.is(11) || t.is(12) || t.is(13)
	return []impl.Ins{{Op: 1, Free: !seen, Leaf: t.node}}, seen || isCounter
}

// before is what the cells go through on the way.
func (m *compileModel) before(way string) ([]impl.Ins, bool) {
	var all []impl.Ins
	seen := false
	t := m.root
	for i, digit := range way {
		if t.is(14) && digit == '1' {
			var left []impl.Ins
			left, seen = m.gen(t.kids[0], way[:i]+"0", seen)
			all = laidBehind(all, left...)
		}
		t = t.kids[digit-'0']
	}
	return all, seen
}

func (m *compileModel) find(way string) *tree {
	t := m.root
	for _, digit := range way {
		t = t.kids[digit-'0']
	}
	return t
}

func modelBlock(ins []impl.Ins) impl.Block {
	b := impl.Block{Ins: slices.Clone(ins)}
	for k := range b.Ins {
		if kind := b.Ins[k].Leaf.Kind; kind >= 11 && kind <= 13 {
			b.Ins[k].A = b.Counters
			b.Counters++
		}
	}
	return b
}

func modelCompile(t *tree) impl.Code {
	m := &compileModel{root: t, numbers: map[string]int64{}}
	m.number(t, "")
	var c impl.Code
	for _, way := range m.ways {
		before, seen := m.before(way)
		p, _ := m.gen(m.find(way).kids[0], way+"0", seen)
		c.Conds = append(c.Conds, modelBlock(laidBehind(before, p...)))
	}
	whole, _ := m.gen(t, "", false)
	c.Main = modelBlock(whole)
	return c
}

func sameBlock(a, b impl.Block) bool {
	return a.Counters == b.Counters && slices.Equal(a.Ins, b.Ins)
}

func sameCode(a, b impl.Code) bool {
	return sameBlock(a.Main, b.Main) && slices.EqualFunc(a.Conds, b.Conds, sameBlock)
}

func modelValidCode(c impl.Code) bool {
	if len(c.Conds) > 200 {
		return false
	}
	for k, b := range c.Conds {
		if !modelValidBlock(b, k) {
			return false
		}
	}
	return modelValidBlock(c.Main, len(c.Conds))
}

func modelValidBlock(b impl.Block, conds int) bool {
	n := len(b.Ins)
	if n < 1 || n > 4000 || b.Counters < 0 || b.Counters > 200 {
		return false
	}
	for k, ins := range b.Ins {
		if !modelValidIns(b, k, ins, conds) {
			return false
		}
	}
	return modelWays(b.Ins)
}

func modelValidIns(b impl.Block, k int, ins impl.Ins, conds int) bool {
	uses := map[int64]string{1: "A Free Leaf", 2: "", 3: "", 4: "", 5: "A B", 6: "B"}
	fields, known := uses[ins.Op]
	if !known {
		return false
	}
	for name, set := range map[string]bool{"A": ins.A != 0, "B": ins.B != 0, "Free": ins.Free, "Leaf": ins.Leaf != impl.Node{}} {
		if set && !slices.Contains(strings.Fields(fields), name) {
			return false
		}
	}
	switch ins.Op {
	case 1:
		most := int64(1)
		if ins.Leaf.Kind >= 11 {
			most = b.Counters
		}
		return ins.Leaf.Kind <= 13 && modelNode(ins.Leaf) && ins.A >= 0 && ins.A < most
	case 5:
		return ins.A >= 0 && ins.A < int64(conds) && ins.B > int64(k) && ins.B <= int64(len(b.Ins))
	case 6:
		return ins.B > int64(k) && ins.B <= int64(len(b.Ins))
	}
	return true
}

// modelWays goes every way with the number of items that it brings, and looks afterwards at what came where.
func modelWays(ins []impl.Ins) bool {
	type place struct{ at, items int }
	came := map[place]bool{}
	work := []place{{0, 1}}
	for len(work) > 0 {
		p := work[0]
		work = work[1:]
		if came[p] {
			continue
		}
		came[p] = true
		if p.items > 250 {
			return false
		}
		if p.at == len(ins) {
			continue
		}
		next := place{p.at + 1, p.items}
		switch ins[p.at].Op {
		case 2:
			next.items++
		case 3, 4:
			if p.items < 2 {
				return false
			}
			next.items -= int(ins[p.at].Op - 3)
		case 5:
			work = append(work, place{int(ins[p.at].B), p.items})
		case 6:
			next.at = int(ins[p.at].B)
		}
		work = append(work, next)
	}
	numbers := make([]int, len(ins)+1)
	for p := range came {
		numbers[p.at]++
	}
	for _, n := range numbers {
		if n != 1 {
			return false
		}
	}
	return came[place{len(ins), 1}]
}

// The hints in the order of the document: a lesser one has a smaller rank.
var hintRanks = []string{"none", "column", "qual", "family", "row", "rowto", "end"}

type modelHint struct{ sort, s string }

func (h modelHint) rank() int { return slices.Index(hintRanks, h.sort) }

func lesserHint(a, b modelHint) modelHint {
	if a.rank() < b.rank() || a.rank() == b.rank() && modelText(a.s, b.s) <= 0 {
		return a
	}
	return b
}

func (h modelHint) skips(c, x impl.Cell) bool {
	switch h.sort {
	case "none":
		return false
	case "column":
		return x.Row == c.Row && x.Fam == c.Fam && x.Qual == c.Qual
	case "qual":
		return x.Row == c.Row && x.Fam == c.Fam && modelText(x.Qual, h.s) < 0
	case "family":
		return x.Row == c.Row && x.Fam == c.Fam
	case "row":
		return x.Row == c.Row
	case "rowto":
		return modelText(x.Row, h.s) < 0
	}
	return true
}

func modelHintOf(n impl.Node, c impl.Cell) modelHint {
	prefix, _ := modelPrefix(n.S)
	switch n.Kind {
	case 2:
		return modelHint{sort: "end"}
	case 4:
		if modelText(c.Row, prefix) < 0 {
			return modelHint{"rowto", prefix}
		}
		if strings.HasPrefix(c.Row, prefix) {
			return modelHint{sort: "row"}
		}
		return modelHint{sort: "end"}
	case 5:
		return modelHint{sort: "family"}
	case 6:
		if modelText(c.Qual, prefix) < 0 {
			return modelHint{"qual", prefix}
		}
		if strings.HasPrefix(c.Qual, prefix) {
			return modelHint{sort: "column"}
		}
		return modelHint{sort: "family"}
	case 8:
		if modelText(c.Row, n.S) < 0 {
			return modelHint{"rowto", n.S}
		}
		return modelHint{sort: "end"}
	case 9:
		if modelText(c.Qual, n.S) < 0 {
			return modelHint{"qual", n.S}
		}
		return modelHint{sort: "family"}
	case 10:
		if c.Ts < n.Lo {
			return modelHint{sort: "column"}
		}
	case 11:
		return modelHint{sort: "column"}
	case 12:
		return modelHint{sort: "row"}
	}
	return modelHint{sort: "none"}
}

type modelCounter struct {
	used  bool
	count int64
	from  impl.Cell
}

type modelItem struct {
	alive, stripped bool
	hint            modelHint
}

// vmModel runs one block; its counters stay from cell to cell until it is asked to forget them.
type vmModel struct {
	filterModel
	counters map[int64]*modelCounter
}

func (m *vmModel) forget() { m.counters = map[int64]*modelCounter{} }

func (m *vmModel) counts(n impl.Node, a int64, c impl.Cell) bool {
	if m.counters[a] == nil {
		m.counters[a] = &modelCounter{}
	}
	k := m.counters[a]
	other := k.from.Row != c.Row || n.Kind == 11 && (k.from.Fam != c.Fam || k.from.Qual != c.Qual)
	if !k.used || other {
		*k = modelCounter{used: true, from: c}
	}
	below := k.count < n.N
	if below {
		k.count++
	}
	return below != (n.Kind == 13)
}

func (m *vmModel) leaf(ins impl.Ins, it modelItem, c impl.Cell) modelItem {
	if !it.alive {
		return it
	}
	if it.stripped {
		c.Val = ""
	}
	through := false
	if ins.Leaf.Kind >= 11 {
		through = m.counts(ins.Leaf, ins.A, c)
	} else {
		through = m.lets(ins.Leaf, []impl.Cell{c}, 0)
	}
	if through {
		return modelItem{alive: true, stripped: it.stripped || ins.Leaf.Kind == 3}
	}
	if ins.Free {
		return modelItem{hint: modelHintOf(ins.Leaf, c)}
	}
	return modelItem{hint: modelHint{sort: "none"}}
}

func (m *vmModel) looks(b impl.Block, c impl.Cell, holds []bool) modelItem {
	stack := []modelItem{{alive: true, hint: modelHint{sort: "none"}}}
	for k := 0; k < len(b.Ins); {
		ins := b.Ins[k]
		k++
		n := len(stack)
		switch ins.Op {
		case 1:
			stack[n-1] = m.leaf(ins, stack[n-1], c)
		case 2:
			stack = append(stack, stack[n-1])
		case 3:
			stack[n-1], stack[n-2] = stack[n-2], stack[n-1]
		case 4:
			r, l := stack[n-1], stack[n-2]
			stack = stack[:n-2]
			if l.alive {
				stack = append(stack, l)
			} else if r.alive {
				stack = append(stack, r)
			} else {
				stack = append(stack, modelItem{hint: lesserHint(l.hint, r.hint)})
			}
		case 5:
			if !holds[ins.A] {
				k = int(ins.B)
			}
		case 6:
			k = int(ins.B)
		}
	}
	return stack[0]
}

func (m *vmModel) row(b impl.Block, row []impl.Cell, holds []bool) []impl.Cell {
	m.forget()
	var told []impl.Cell
	for _, c := range row {
		it := m.looks(b, c, holds)
		if it.stripped {
			c.Val = ""
		}
		if it.alive {
			told = append(told, c)
		}
	}
	return told
}

// run is for valid code and cells.
func (m *vmModel) run(c impl.Code, cells []impl.Cell, hints bool) impl.ScanRes {
	res := impl.ScanRes{Ok: true}
	if len(c.Conds) > 0 {
		res.Ops = int64(len(cells))
		for len(cells) > 0 {
			n := 1
			for n < len(cells) && cells[n].Row == cells[0].Row {
				n++
			}
			var holds []bool
			for _, b := range c.Conds {
				holds = append(holds, len(m.row(b, cells[:n], holds)) > 0)
			}
			res.Cells = append(res.Cells, m.row(c.Main, cells[:n], holds)...)
			cells = cells[n:]
		}
		return res
	}
	m.forget()
	for i := 0; i < len(cells); {
		here := cells[i]
		it := m.looks(c.Main, here, nil)
		i++
		if it.stripped {
			here.Val = ""
		}
		if it.alive {
			res.Cells = append(res.Cells, here)
		}
		for hints && !it.alive && i < len(cells) && it.hint.skips(here, cells[i]) {
			i++
		}
		res.Ops++
	}
	return res
}

func newVMModel() *vmModel { return &vmModel{filterModel: filterModel{newGrammarModel()}} }

func sameScan(a, b impl.ScanRes) bool {
	return a.Ok == b.Ok && a.Ops == b.Ops && slices.Equal(a.Cells, b.Cells)
}

// codeText shows code for tests by hand: a block is its counters and its instructions; a leaf has + for Free or - and, if it counts, the number of its counter.
func codeText(c impl.Code) string {
	var texts []string
	for _, b := range c.Conds {
		texts = append(texts, "cond "+blockText(b))
	}
	return strings.Join(append(texts, "main "+blockText(c.Main)), "\n")
}

func blockText(b impl.Block) string {
	words := []string{strconv.FormatInt(b.Counters, 10) + ":"}
	for _, ins := range b.Ins {
		word := map[int64]string{2: "dup", 3: "swap", 4: "join"}[ins.Op]
		a, to := strconv.FormatInt(ins.A, 10), strconv.FormatInt(ins.B, 10)
		switch ins.Op {
		case 1:
			word = map[bool]string{true: "+", false: "-"}[ins.Free] + leaf(ins.Leaf).print()
			if ins.Leaf.Kind >= 11 {
				word += " #" + a
			}
		case 5:
			word = "branch " + a + " to " + to
		case 6:
			word = "jump " + to
		}
		words = append(words, word+";")
	}
	return strings.TrimSuffix(strings.Join(words, " "), ";")
}
