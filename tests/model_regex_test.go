package tests

import (
	"slices"
	"strings"
)

// Three models of patterns: the grammar of the document read as it stands, over all ways to part a text; a machine that reads byte by byte and tells the first fault; and patterns that are drawn together with their meaning, so that they need not be read.

const modelPlainNot = "*+?|()[].\\"

// grammarModel remembers what it has found: the same small parts come up again and again.
type grammarModel struct {
	known map[string]bool
}

func newGrammarModel() *grammarModel { return &grammarModel{known: map[string]bool{}} }

func (g *grammarModel) remember(key string, find func() bool) bool {
	if known, ok := g.known[key]; ok {
		return known
	}
	found := find()
	g.known[key] = found
	return found
}

func (g *grammarModel) isAlt(p string) bool {
	return g.remember("alt"+p, func() bool {
		if g.isSeq(p) {
			return true
		}
		for i := range len(p) {
			if p[i] == '|' && g.isSeq(p[:i]) && g.isAlt(p[i+1:]) {
				return true
			}
		}
		return false
	})
}

func (g *grammarModel) isSeq(p string) bool {
	return g.remember("seq"+p, func() bool {
		if p == "" {
			return true
		}
		for i := 1; i <= len(p); i++ {
			if g.isRep(p[:i]) && g.isSeq(p[i:]) {
				return true
			}
		}
		return false
	})
}

func (g *grammarModel) isRep(p string) bool {
	return g.isAtom(p) || endsInSign(p) && g.isRep(p[:len(p)-1])
}

func endsInSign(p string) bool { return p != "" && strings.Contains("*+?", p[len(p)-1:]) }

func (g *grammarModel) isAtom(p string) bool {
	switch {
	case len(p) == 1:
		return p == "." || !strings.Contains(modelPlainNot, p)
	case len(p) == 2 && p[0] == '\\':
		return true
	case len(p) >= 2 && p[0] == '(' && p[len(p)-1] == ')':
		return g.isAlt(p[1 : len(p)-1])
	case len(p) >= 3 && p[0] == '[' && p[len(p)-1] == ']':
		items, _ := classItems(p)
		return items != "" && len(itemsOf(items)) > 0
	}
	return false
}

// classItems is what stands in a class behind its ^, if it has one.
func classItems(p string) (items string, negated bool) {
	items = p[1 : len(p)-1]
	if strings.HasPrefix(items, "^") {
		return items[1:], true
	}
	return items, false
}

// itemsOf gives the first and last byte of each item in turn, or nothing if the text is not a list of items.
func itemsOf(items string) []byte {
	if items == "" {
		return nil
	}
	for _, n := range []int{1, 2} {
		low, ok := modelCh(items, n)
		if !ok {
			continue
		}
		behind := items[n:]
		if behind == "" {
			return []byte{low, low}
		}
		if rest := itemsOf(behind); rest != nil {
			return append([]byte{low, low}, rest...)
		}
		for _, m := range []int{1, 2} {
			if len(behind) < 1+m || behind[0] != '-' {
				continue
			}
			high, ok := modelCh(behind[1:], m)
			rest := itemsOf(behind[1+m:])
			if ok && (rest != nil || len(behind) == 1+m) {
				return append([]byte{low, high}, rest...)
			}
		}
	}
	return nil
}

func modelCh(text string, n int) (byte, bool) {
	if len(text) < n {
		return 0, false
	}
	if n == 2 {
		return text[1], text[0] == '\\'
	}
	return text[0], !strings.Contains("]\\-", text[:1])
}

// begins tells whether some pattern begins with p: what is open can be closed by a byte, a "]" and some ")".
func (g *grammarModel) begins(p string) bool {
	for _, c := range []string{"", "a", "]", "a]"} {
		for n := 0; n <= len(p); n++ {
			if g.isAlt(p + c + strings.Repeat(")", n)) {
				return true
			}
		}
	}
	return false
}

// syntaxFault is the offset of the first fault of syntax, or -1; faults of depth and range are not seen.
func (g *grammarModel) syntaxFault(p string) int64 {
	for i := range len(p) {
		if !g.begins(p[:i+1]) {
			return int64(i)
		}
	}
	if !g.isAlt(p) {
		return int64(len(p))
	}
	return -1
}

func (g *grammarModel) altMatches(p, s string) bool {
	if g.isSeq(p) {
		return g.seqMatches(p, s)
	}
	for i := range len(p) {
		if p[i] == '|' && g.isSeq(p[:i]) && g.isAlt(p[i+1:]) {
			return g.seqMatches(p[:i], s) || g.altMatches(p[i+1:], s)
		}
	}
	return false
}

func (g *grammarModel) seqMatches(p, s string) bool {
	if p == "" {
		return s == ""
	}
	for i := 1; i <= len(p); i++ {
		for k := 0; k <= len(s) && g.isRep(p[:i]) && g.isSeq(p[i:]); k++ {
			if g.repMatches(p[:i], s[:k]) && g.seqMatches(p[i:], s[k:]) {
				return true
			}
		}
	}
	return false
}

func (g *grammarModel) repMatches(p, s string) bool {
	if g.isAtom(p) {
		return g.atomMatches(p, s)
	}
	once, sign := p[:len(p)-1], p[len(p)-1]
	if s == "" && sign != '+' || g.repMatches(once, s) {
		return true
	}
	for k := 1; k < len(s) && sign != '?'; k++ {
		if g.repMatches(once, s[:k]) && g.repMatches(p, s[k:]) {
			return true
		}
	}
	return false
}

func (g *grammarModel) atomMatches(p, s string) bool {
	switch {
	case p[0] == '(':
		return g.altMatches(p[1:len(p)-1], s)
	case len(s) != 1:
		return false
	case p == ".":
		return true
	case p[0] == '\\':
		return s == p[1:]
	case p[0] == '[':
		items, negated := classItems(p)
		held := false
		ends := itemsOf(items)
		for i := 0; i < len(ends); i += 2 {
			held = held || ends[i] <= s[0] && s[0] <= ends[i+1]
		}
		return held != negated
	}
	return s == p
}

// modelFault reads byte by byte: mode tells what may come next, items are where the class at hand is.
func modelFault(p string) (err, at int64) {
	if len(p) > 200 {
		return 1, 0
	}
	const (
		noAtom = iota
		atom
		escape
		classStart
		itemStart
		itemEscape
		itemLow
		rangeHigh
		rangeEscape
		behindRange
	)
	mode, open, from := noAtom, 0, 0
	low := byte(0)
	for i := range len(p) {
		b := p[i]
		high, whole := byte(0), false
		switch mode {
		case noAtom, atom:
			switch {
			case strings.IndexByte("*+?", b) >= 0 && mode == noAtom, b == ')' && open == 0, b == ']':
				return 2, int64(i)
			case b == '(' && open == 20:
				return 3, int64(i)
			case b == '(':
				open++
				mode = noAtom
			case b == ')':
				open--
				mode = atom
			case b == '|':
				mode = noAtom
			case b == '\\':
				mode = escape
			case b == '[':
				mode = classStart
			default:
				mode = atom
			}
		case escape:
			mode = atom
		case classStart, itemStart, itemLow, behindRange:
			switch {
			case b == '^' && mode == classStart:
				mode = itemStart
			case b == ']' && (mode == itemLow || mode == behindRange):
				mode = atom
			case b == '-' && mode == itemLow:
				mode = rangeHigh
			case b == ']' || b == '-':
				return 2, int64(i)
			case b == '\\':
				mode, from = itemEscape, i
			default:
				mode, from, low = itemLow, i, b
			}
		case itemEscape:
			mode, low = itemLow, b
		case rangeHigh:
			switch b {
			case ']', '-':
				return 2, int64(i)
			case '\\':
				mode = rangeEscape
			default:
				high, whole = b, true
			}
		case rangeEscape:
			high, whole = b, true
		}
		if whole && low > high {
			return 4, int64(from)
		}
		if whole {
			mode = behindRange
		}
	}
	if open > 0 || mode != noAtom && mode != atom {
		return 2, int64(len(p))
	}
	return 0, 0
}

// modelPrefix is for patterns without a fault.
func modelPrefix(p string) (text string, exact bool) {
	open, class := 0, false
	for i := 0; i < len(p); i++ {
		switch {
		case p[i] == '\\':
			i++
		case class:
			class = p[i] != ']'
		case p[i] == '[':
			class = true
		case p[i] == '(':
			open++
		case p[i] == ')':
			open--
		case p[i] == '|' && open == 0:
			return "", false
		}
	}
	for p != "" {
		n := 1
		if p[0] == '\\' {
			n = 2
		} else if strings.Contains(modelPlainNot, p[:1]) {
			return text, false
		}
		if len(p) > n && strings.Contains("*+?", p[n:n+1]) {
			return text, false
		}
		text += p[n-1 : n]
		p = p[n:]
	}
	return text, true
}

// drawn is a pattern with its meaning: ends takes the offsets at which a match may begin to those at which it may end; sample draws a string that it matches.
type drawn struct {
	text   string
	ends   func(s string, from []bool) []bool
	sample func(d *dice) string
}

func (p drawn) matches(s string) bool {
	from := make([]bool, len(s)+1)
	from[0] = true
	return p.ends(s, from)[len(s)]
}

func joinEnds(a, b []bool) []bool {
	both := make([]bool, len(a))
	for i := range a {
		both[i] = a[i] || b[i]
	}
	return both
}

func drawnBytes(text string, holds func(b byte) bool) drawn {
	var held []byte
	for b := range 256 {
		if holds(byte(b)) {
			held = append(held, byte(b))
		}
	}
	ends := func(s string, from []bool) []bool {
		to := make([]bool, len(s)+1)
		for i := range len(s) {
			to[i+1] = from[i] && holds(s[i])
		}
		return to
	}
	sample := func(d *dice) string {
		if len(held) == 0 {
			return ""
		}
		return string([]byte{pick(d, held)})
	}
	return drawn{text: text, ends: ends, sample: sample}
}

func drawnEmpty() drawn {
	return drawn{ends: func(s string, from []bool) []bool { return from }, sample: func(d *dice) string { return "" }}
}

func drawnSeq(a, b drawn) drawn {
	return drawn{
		text:   a.text + b.text,
		ends:   func(s string, from []bool) []bool { return b.ends(s, a.ends(s, from)) },
		sample: func(d *dice) string { return a.sample(d) + b.sample(d) },
	}
}

func drawnAlt(a, b drawn) drawn {
	return drawn{
		text: a.text + "|" + b.text,
		ends: func(s string, from []bool) []bool { return joinEnds(a.ends(s, from), b.ends(s, from)) },
		sample: func(d *dice) string {
			if d.roll(2) == 0 {
				return a.sample(d)
			}
			return b.sample(d)
		},
	}
}

// manyEnds goes round until a round adds nothing.
func manyEnds(a drawn, s string, from []bool) []bool {
	for {
		next := joinEnds(from, a.ends(s, from))
		if slices.Equal(next, from) {
			return from
		}
		from = next
	}
}

func drawnSign(a drawn, sign string) drawn {
	p := drawn{text: a.text + sign}
	least, most := 0, 3
	switch sign {
	case "*":
		p.ends = func(s string, from []bool) []bool { return manyEnds(a, s, from) }
	case "+":
		p.ends = func(s string, from []bool) []bool { return manyEnds(a, s, a.ends(s, from)) }
		least = 1
	case "?":
		p.ends = func(s string, from []bool) []bool { return joinEnds(from, a.ends(s, from)) }
		most = 1
	}
	p.sample = func(d *dice) string {
		text := ""
		for range least + d.roll(most-least+1) {
			text += a.sample(d)
		}
		return text
	}
	return p
}

// spelled is a byte as a ch of a class or as an atom.
func spelled(d *dice, b byte, needs string) string {
	if strings.IndexByte(needs, b) >= 0 || d.roll(5) == 0 {
		return "\\" + string([]byte{b})
	}
	return string([]byte{b})
}

func drawByte(d *dice) byte {
	if d.roll(4) == 0 {
		return byte(d.roll(256))
	}
	return "abcab-^|.*(]\\\x00\xff"[d.roll(15)]
}

func drawClass(d *dice) drawn {
	var held [256]bool
	negated := d.roll(3) == 0
	text := "["
	if negated {
		text += "^"
	}
	for i := range 1 + d.roll(3) {
		low := drawByte(d)
		high := low
		needs := "]\\-"
		if i == 0 && !negated {
			needs += "^"
		}
		item := spelled(d, low, needs)
		if d.roll(2) == 0 {
			high = byte(int(low) + d.roll(256-int(low)))
			item += "-" + spelled(d, high, "]\\-")
		}
		for b := int(low); b <= int(high); b++ {
			held[b] = true
		}
		text += item
	}
	return drawnBytes(text+"]", func(b byte) bool { return held[b] != negated })
}

func drawAtom(d *dice, depth int) drawn {
	switch n := d.roll(10); {
	case n == 0:
		return drawnBytes(".", func(byte) bool { return true })
	case n <= 2:
		return drawClass(d)
	case n <= 5 && depth > 0:
		inner := drawPattern(d, depth-1)
		inner.text = "(" + inner.text + ")"
		return inner
	}
	b := drawByte(d)
	return drawnBytes(spelled(d, b, modelPlainNot), func(x byte) bool { return x == b })
}

func drawPattern(d *dice, depth int) drawn {
	alt := drawnEmpty()
	for i := range 1 + d.roll(5)/3 {
		seq := drawnEmpty()
		for range d.roll(5) {
			rep := drawAtom(d, depth)
			for d.roll(3) == 0 {
				rep = drawnSign(rep, pick(d, []string{"*", "+", "?"}))
			}
			seq = drawnSeq(seq, rep)
		}
		if i == 0 {
			alt = seq
		} else {
			alt = drawnAlt(alt, seq)
		}
	}
	return alt
}

// everyText calls visit with all texts of at most length bytes of the alphabet.
func everyText(alphabet string, length int, visit func(text string)) {
	var grow func(text string)
	grow = func(text string) {
		visit(text)
		for i := 0; i < len(alphabet) && len(text) < length; i++ {
			grow(text + alphabet[i:i+1])
		}
	}
	grow("")
}
