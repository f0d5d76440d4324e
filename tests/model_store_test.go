package tests

import (
	"math/big"
	"regexp"
	"slices"
	"strings"

	"loop.example/s01854/impl"
)

// The model of stores looks for a tablet by asking all of them, parts runs entry by entry, cuts pages by trying more and more rows of the meaning, and reads a session's lines by one form for each.

func tabletOf(lo string, runs ...impl.Run) impl.Tablet { return impl.Tablet{Lo: lo, Runs: runs} }

func storeOf(tablets ...impl.Tablet) impl.Store { return impl.Store{Tablets: tablets} }

func cloneStore(s impl.Store) impl.Store {
	s.Tablets = slices.Clone(s.Tablets)
	for i := range s.Tablets {
		s.Tablets[i].Runs = slices.Clone(s.Tablets[i].Runs)
		for k := range s.Tablets[i].Runs {
			s.Tablets[i].Runs[k].Entries = slices.Clone(s.Tablets[i].Runs[k].Entries)
		}
	}
	return s
}

func sameStore(a, b impl.Store) bool {
	return slices.EqualFunc(a.Tablets, b.Tablets, func(x, y impl.Tablet) bool {
		return x.Lo == y.Lo && slices.EqualFunc(x.Runs, y.Runs, func(q, r impl.Run) bool { return slices.Equal(q.Entries, r.Entries) })
	})
}

func samePage(a, b impl.Page) bool {
	return a.Err == b.Err && a.Done == b.Done && slices.Equal(a.Cells, b.Cells) && slices.Equal(a.Token, b.Token)
}

func modelHolds(s impl.Store, i int, row string) bool {
	return modelText(s.Tablets[i].Lo, row) <= 0 && (i+1 == len(s.Tablets) || modelText(row, s.Tablets[i+1].Lo) < 0)
}

func modelHolder(s impl.Store, row string) int {
	for i := range s.Tablets {
		if modelHolds(s, i, row) {
			return i
		}
	}
	return -1
}

func modelValidRun(entries []impl.Entry) bool {
	for i, e := range entries {
		if !modelRight(e) {
			return false
		}
		for _, o := range entries[:i] {
			if modelCompare(o, e) >= 0 || sameColumn(o, e) && o.Kind == 2 && e.Kind == 2 {
				return false
			}
		}
	}
	return len(entries) <= 10000
}

func modelValidStore(s impl.Store) bool {
	n := len(s.Tablets)
	if n < 1 || n > 100 || s.Tablets[0].Lo != "" {
		return false
	}
	for i, tablet := range s.Tablets {
		if len(tablet.Lo) > 64 || len(tablet.Runs) > 50 || i > 0 && modelText(s.Tablets[i-1].Lo, tablet.Lo) >= 0 {
			return false
		}
		for _, r := range tablet.Runs {
			outside := slices.ContainsFunc(r.Entries, func(e impl.Entry) bool { return !modelHolds(s, i, e.Row) })
			if len(r.Entries) == 0 || outside || !modelValidRun(r.Entries) {
				return false
			}
		}
	}
	return true
}

func modelWrite(s impl.Store, writes []impl.Entry) impl.Store {
	wrong := slices.ContainsFunc(writes, func(w impl.Entry) bool { return !modelRight(w) })
	if !modelValidStore(s) || wrong || len(writes) > 10000 {
		return cloneStore(s)
	}
	written := cloneStore(s)
	for i := range s.Tablets {
		var its []impl.Entry
		for _, w := range writes {
			if modelHolds(s, i, w.Row) {
				its = append(its, w)
			}
		}
		if len(its) == 0 {
			continue
		}
		if len(s.Tablets[i].Runs) == 50 {
			return cloneStore(s)
		}
		written.Tablets[i].Runs = slices.Insert(written.Tablets[i].Runs, 0, runOf(modelBuild(its)...))
	}
	return written
}

func modelSplit(s impl.Store, row string) impl.Store {
	known := slices.ContainsFunc(s.Tablets, func(t impl.Tablet) bool { return t.Lo == row })
	if !modelValidStore(s) || row == "" || len(row) > 64 || known || len(s.Tablets) == 100 {
		return cloneStore(s)
	}
	split := impl.Store{}
	for i, tablet := range cloneStore(s).Tablets {
		if !modelHolds(s, i, row) {
			split.Tablets = append(split.Tablets, tablet)
			continue
		}
		first, second := tabletOf(tablet.Lo), tabletOf(row)
		for _, r := range tablet.Runs {
			var below, above []impl.Entry
			for _, e := range r.Entries {
				if modelText(e.Row, row) < 0 {
					below = append(below, e)
				} else {
					above = append(above, e)
				}
			}
			if len(below) > 0 {
				first.Runs = append(first.Runs, runOf(below...))
			}
			if len(above) > 0 {
				second.Runs = append(second.Runs, runOf(above...))
			}
		}
		split.Tablets = append(split.Tablets, first, second)
	}
	return split
}

func modelUnite(s impl.Store, row string) impl.Store {
	united := cloneStore(s)
	i := modelHolder(s, row)
	if !modelValidStore(s) || i+1 == len(s.Tablets) || len(s.Tablets[i].Runs)+len(s.Tablets[i+1].Runs) > 50 {
		return united
	}
	united.Tablets[i].Runs = append(united.Tablets[i].Runs, united.Tablets[i+1].Runs...)
	united.Tablets = slices.Delete(united.Tablets, i+1, i+2)
	return united
}

func modelCompact(s impl.Store, row string) impl.Store {
	compacted := cloneStore(s)
	if !modelValidStore(s) {
		return compacted
	}
	tablet := &compacted.Tablets[modelHolder(s, row)]
	cells := modelMerge(tablet.Runs, impl.Range{})
	if len(cells) > 10000 {
		return compacted
	}
	tablet.Runs = nil
	if len(cells) > 0 {
		var puts []impl.Entry
		for _, c := range cells {
			puts = append(puts, asPut(c))
		}
		tablet.Runs = []impl.Run{runOf(puts...)}
	}
	return compacted
}

func modelOverfull(s impl.Store, rg impl.Range) bool {
	return slices.ContainsFunc(s.Tablets, func(t impl.Tablet) bool { return len(modelMerge(t.Runs, rg)) > 10000 })
}

func modelScanAll(m *vmModel, f impl.Filter, s impl.Store, rg impl.Range) impl.ScanRes {
	if !modelValid(f) || !modelValidStore(s) || modelOverfull(s, rg) {
		return impl.ScanRes{}
	}
	all := impl.ScanRes{Ok: true}
	code := modelCompile(modelTree(f.Nodes).normal())
	for _, tablet := range s.Tablets {
		one := m.run(code, modelMerge(tablet.Runs, rg), true)
		all.Cells = append(all.Cells, one.Cells...)
		all.Ops += one.Ops
	}
	return all
}

func modelPageToken(row string) []byte { return []byte("T" + row + modelFixed(modelCrc("T"+row))) }

// modelTokenRow takes the token apart as the document lays it down, and tells whether it is one.
func modelTokenRow(token []byte) (string, bool) {
	n := len(token)
	if n == 0 {
		return "", true
	}
	if n < 5 || n > 70 || token[0] != 'T' || modelFixed(modelCrc(string(token[:n-4]))) != string(token[n-4:]) {
		return "", false
	}
	return string(token[1 : n-4]), true
}

func modelPage(m *vmModel, f impl.Filter, s impl.Store, rg impl.Range, token []byte, budget int64) impl.Page {
	from, isToken := modelTokenRow(token)
	for _, fault := range []struct {
		holds bool
		err   int64
	}{{!modelValid(f), 1}, {!modelValidStore(s) || modelOverfull(s, rg), 2}, {budget < 1 || budget > 10000, 4}, {!isToken, 3}} {
		if fault.holds {
			return impl.Page{Err: fault.err}
		}
	}
	start := rg
	if modelText(from, rg.Lo) > 0 {
		start.Lo = from
	}
	if rg.HasHi && modelText(start.Lo, rg.Hi) >= 0 {
		return impl.Page{Done: true}
	}
	i := modelHolder(s, start.Lo)
	out := m.meaning(modelTree(f.Nodes), modelMerge(s.Tablets[i].Runs, start))
	if int64(len(out)) < budget {
		last := i+1 == len(s.Tablets) || rg.HasHi && modelText(s.Tablets[i+1].Lo, rg.Hi) >= 0
		if last {
			return impl.Page{Cells: out, Done: true}
		}
		return impl.Page{Cells: out, Token: modelPageToken(s.Tablets[i+1].Lo)}
	}
	n := int(budget)
	for n < len(out) && out[n].Row == out[n-1].Row {
		n++
	}
	return impl.Page{Cells: out[:n], Token: modelPageToken(out[n-1].Row + "\x00")}
}

type modelPaged struct {
	filter impl.Filter
	rg     impl.Range
	budget int64
	token  []byte
}

// modelSession keeps all the writes that were not bad too, for what a store must show in the end.
type modelSession struct {
	vm      *vmModel
	store   impl.Store
	waiting []impl.Entry
	writes  []impl.Entry
	scan    *modelPaged
	out     strings.Builder
}

var (
	putLine   = regexp.MustCompile(`^put ([^ ]+) ([^ ]+) ([^ ]+) (0|[1-9][0-9]*) ([^ ]+)$`)
	delLine   = regexp.MustCompile(`^(del|delcol) ([^ ]+) ([^ ]+) ([^ ]+) (0|[1-9][0-9]*)$`)
	shapeLine = regexp.MustCompile(`^(split|merge|compact) ([^ ]+)$`)
	scanLine  = regexp.MustCompile(`^scan ([^ ]+) ([^ ]+) ([1-9][0-9]*) (.*)$`)
)

func modelNum(digits string) (uint64, bool) {
	n, _ := new(big.Int).SetString(digits, 10)
	return n.Uint64(), n.IsUint64()
}

// dashed is the empty text for "-", "-" for the empty text, and else the text.
func dashed(s string) string {
	switch s {
	case "":
		return "-"
	case "-":
		return ""
	}
	return s
}

func newModelSession() *modelSession {
	return &modelSession{vm: newVMModel(), store: storeOf(tabletOf(""))}
}

func (m *modelSession) run(text string) string {
	if len(text) > 20000 {
		return "long\n"
	}
	for text != "" {
		line, rest, _ := strings.Cut(text, "\n")
		if !m.line(line) {
			m.out.WriteString("bad\n")
		}
		text = rest
	}
	return m.out.String()
}

func (m *modelSession) line(line string) bool {
	if line == "flush" {
		m.flush()
		return true
	}
	if line == "next" && m.scan == nil {
		m.out.WriteString("none\n")
		return true
	}
	if line == "next" {
		m.page()
		return true
	}
	if f := putLine.FindStringSubmatch(line); f != nil {
		return m.write(put(f[1], f[2], dashed(f[3]), 0, dashed(f[5])), f[4])
	}
	if f := delLine.FindStringSubmatch(line); f != nil {
		w := del(f[2], f[3], dashed(f[4]), 0)
		w.Kind = map[string]int64{"del": 1, "delcol": 2}[f[1]]
		return m.write(w, f[5])
	}
	if f := shapeLine.FindStringSubmatch(line); f != nil {
		m.store = map[string]func(s impl.Store, row string) impl.Store{"split": modelSplit, "merge": modelUnite, "compact": modelCompact}[f[1]](m.store, f[2])
		return true
	}
	if f := scanLine.FindStringSubmatch(line); f != nil {
		return m.begin(f[1], f[2], f[3], f[4])
	}
	return false
}

func (m *modelSession) write(w impl.Entry, ts string) bool {
	n, ok := modelNum(ts)
	w.Ts = n
	if !ok || !modelRight(w) {
		return false
	}
	m.waiting = append(m.waiting, w)
	m.writes = append(m.writes, w)
	return true
}

func (m *modelSession) flush() {
	for _, tablet := range m.store.Tablets {
		if len(tablet.Runs) == 50 {
			m.store = modelCompact(m.store, tablet.Lo)
		}
	}
	m.store = modelWrite(m.store, m.waiting)
	m.waiting = nil
}

func (m *modelSession) begin(lo, hi, budget, filter string) bool {
	n, ok := modelNum(budget)
	if !ok || n > 10000 {
		return false
	}
	m.flush()
	res := modelParse(filter)
	if res.Err != 0 {
		m.scan = nil
		m.out.WriteString("error " + decimal(uint64(res.Err)) + " " + decimal(uint64(res.At)) + "\n")
		return true
	}
	m.scan = &modelPaged{filter: res.Filter, rg: impl.Range{Lo: dashed(lo), HasHi: hi != "-", Hi: dashed(hi)}, budget: int64(n)}
	m.page()
	return true
}

func (m *modelSession) page() {
	page := modelPage(m.vm, m.scan.filter, m.store, m.scan.rg, m.scan.token, m.scan.budget)
	for _, c := range page.Cells {
		m.out.WriteString(c.Row + " " + c.Fam + " " + dashed(c.Qual) + " " + decimal(c.Ts) + " " + dashed(c.Val) + "\n")
	}
	m.scan.token = page.Token
	if page.Done {
		m.scan = nil
	}
	m.out.WriteString(map[bool]string{true: "done\n", false: "more\n"}[page.Done])
}

var (
	storeRows  = []string{"a", "a\x00", "ab", "b", "ba", "bb"}
	splitRows  = []string{"a", "a\x00", "a\x00\x00", "aa", "ab", "ab\x00", "b", "b\x00", "ba", "c", "0"}
	storeQuals = []string{"", "a", "ab", "b"}
)

func drawWrites(d *dice, n int) []impl.Entry {
	var writes []impl.Entry
	for range n {
		w := put(pick(d, storeRows), pick(d, []string{"a", "b"}), pick(d, storeQuals), uint64(d.roll(5)), pick(d, []string{"", "a", "b", "ab"}))
		w.Kind = pick(d, []int64{0, 0, 0, 0, 0, 1, 2})
		if w.Kind != 0 {
			w.Val = ""
		}
		writes = append(writes, w)
	}
	return writes
}

// reshaped changes a store's shape once, by the model.
func reshaped(d *dice, s impl.Store) impl.Store {
	row := pick(d, splitRows)
	switch d.roll(4) {
	case 0, 1:
		return modelSplit(s, row)
	case 2:
		return modelUnite(s, row)
	}
	return modelCompact(s, row)
}

func drawStore(d *dice, steps int) impl.Store {
	s := storeOf(tabletOf(""))
	for range d.roll(steps) {
		if d.roll(2) == 0 {
			s = modelWrite(s, drawWrites(d, d.roll(12)))
		} else {
			s = reshaped(d, s)
		}
	}
	return s
}

func drawRange(d *dice) impl.Range {
	ends := append([]string{"", "", ""}, splitRows...)
	return impl.Range{Lo: pick(d, ends), HasHi: d.roll(2) == 0, Hi: pick(d, ends)}
}
