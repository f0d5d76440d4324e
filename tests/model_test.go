package tests

import (
	"slices"
	"testing"

	"loop.example/s01854/impl"
)

// The models follow the document word by word and share nothing with the program but its types, so that a fault of the program is not found again in what it is held against.

func put(row, fam, qual string, ts uint64, val string) impl.Entry {
	return impl.Entry{Row: row, Fam: fam, Qual: qual, Ts: ts, Kind: impl.KindPut, Val: val}
}

func del(row, fam, qual string, ts uint64) impl.Entry {
	return impl.Entry{Row: row, Fam: fam, Qual: qual, Ts: ts, Kind: impl.KindDel}
}

func delCol(row, fam, qual string, ts uint64) impl.Entry {
	return impl.Entry{Row: row, Fam: fam, Qual: qual, Ts: ts, Kind: impl.KindDelCol}
}

func cellOf(e impl.Entry) impl.Cell {
	return impl.Cell{Row: e.Row, Fam: e.Fam, Qual: e.Qual, Ts: e.Ts, Val: e.Val}
}

func cellsOf(entries ...impl.Entry) []impl.Cell {
	var cells []impl.Cell
	for _, e := range entries {
		cells = append(cells, cellOf(e))
	}
	return cells
}

func modelText(a, b string) int64 {
	for i := 0; i < len(a) && i < len(b); i++ {
		if a[i] < b[i] {
			return -1
		}
		if a[i] > b[i] {
			return 1
		}
	}
	if len(a) < len(b) {
		return -1
	}
	if len(a) > len(b) {
		return 1
	}
	return 0
}

func modelCompare(a, b impl.Entry) int64 {
	for _, pair := range [][2]string{{a.Row, b.Row}, {a.Fam, b.Fam}, {a.Qual, b.Qual}} {
		if c := modelText(pair[0], pair[1]); c != 0 {
			return c
		}
	}
	aCol, bCol := a.Kind == impl.KindDelCol, b.Kind == impl.KindDelCol
	switch {
	case aCol && !bCol:
		return -1
	case bCol && !aCol:
		return 1
	case a.Ts > b.Ts:
		return -1
	case a.Ts < b.Ts:
		return 1
	}
	return 0
}

func sameColumn(a, b impl.Entry) bool {
	return a.Row == b.Row && a.Fam == b.Fam && a.Qual == b.Qual
}

func modelSort(entries []impl.Entry) []impl.Entry {
	var sorted []impl.Entry
	for _, e := range entries {
		i := 0
		for i < len(sorted) && modelCompare(sorted[i], e) < 0 {
			i++
		}
		sorted = slices.Insert(sorted, i, e)
	}
	return sorted
}

// modelReplay carries the writes out one by one on a table that is a plain list of puts.
func modelReplay(writes []impl.Entry) []impl.Cell {
	var table []impl.Entry
	for _, w := range writes {
		var next []impl.Entry
		for _, e := range table {
			gone := sameColumn(e, w) && (e.Ts == w.Ts || w.Kind == impl.KindDelCol && e.Ts <= w.Ts)
			if !gone {
				next = append(next, e)
			}
		}
		if w.Kind == impl.KindPut {
			next = append(next, w)
		}
		table = next
	}
	return cellsOf(modelSort(table)...)
}

func modelBuild(writes []impl.Entry) []impl.Entry {
	var kept []impl.Entry
	for _, w := range writes {
		var next []impl.Entry
		gets := w
		for _, e := range kept {
			switch {
			case !sameColumn(e, w):
				next = append(next, e)
			case w.Kind == impl.KindDelCol && e.Kind == impl.KindDelCol:
				gets.Ts = max(w.Ts, e.Ts)
			case w.Kind == impl.KindDelCol && e.Ts > w.Ts:
				next = append(next, e)
			case w.Kind != impl.KindDelCol && (e.Kind == impl.KindDelCol || e.Ts != w.Ts):
				next = append(next, e)
			}
		}
		kept = append(next, gets)
	}
	return modelSort(kept)
}

func modelIn(rg impl.Range, row string) bool {
	return modelText(row, rg.Lo) >= 0 && !(rg.HasHi && modelText(row, rg.Hi) >= 0)
}

// modelVisible looks at the runs from the newest for the key of k.
func modelVisible(runs []impl.Run, k impl.Entry) (string, bool) {
	for _, r := range runs {
		for _, e := range r.Entries {
			if sameColumn(e, k) && e.Kind != impl.KindDelCol && e.Ts == k.Ts {
				return e.Val, e.Kind == impl.KindPut
			}
		}
		for _, e := range r.Entries {
			if sameColumn(e, k) && e.Kind == impl.KindDelCol && e.Ts >= k.Ts {
				return "", false
			}
		}
	}
	return "", false
}

func modelMerge(runs []impl.Run, rg impl.Range) []impl.Cell {
	var shown []impl.Entry
	for _, r := range runs {
		for _, e := range r.Entries {
			known := slices.ContainsFunc(shown, func(s impl.Entry) bool { return sameColumn(s, e) && s.Ts == e.Ts })
			val, visible := modelVisible(runs, e)
			if e.Kind == impl.KindPut && visible && !known && modelIn(rg, e.Row) {
				shown = append(shown, put(e.Row, e.Fam, e.Qual, e.Ts, val))
			}
		}
	}
	return cellsOf(modelSort(shown)...)
}

// dice is a fixed row of numbers: every run of the tests sees the same inputs.
type dice struct{ state uint64 }

func (d *dice) roll(n int) int {
	d.state = d.state*6364136223846793005 + 1442695040888963407
	return int((d.state >> 33) % uint64(n))
}

func pick[T any](d *dice, list []T) T { return list[d.roll(len(list))] }

var (
	someRows  = []string{"a", "aa", "a\x00", "b", "\x7f", "\x80", "\xff\xfe"}
	someFams  = []string{"f", "\x00", "f\xe9"}
	someQuals = []string{"", "q", "q\x00", "\xc3\xa4"}
	someTs    = []uint64{0, 1, 2, 3, 1 << 63, 1<<64 - 2, 1<<64 - 1}
)

// someWrites gives n valid writes over the first few rows, so few of them that keys meet often.
func someWrites(d *dice, n int, rows int) []impl.Entry {
	var writes []impl.Entry
	for i := 0; i < n; i++ {
		w := put(pick(d, someRows[:rows]), pick(d, someFams[:1+rows/3]), pick(d, someQuals[:1+rows/2]), pick(d, someTs), "")
		switch d.roll(8) {
		case 0, 1:
			w.Kind = impl.KindDel
		case 2:
			w.Kind = impl.KindDelCol
		default:
			w.Val = string([]byte{byte(i >> 8), byte(i), byte(0x80 + d.roll(128))})
		}
		writes = append(writes, w)
	}
	return writes
}

// everyList calls visit with all lists of writes of one column, of at most length writes, with timestamps 1, 2 and 3.
func everyList(length int, visit func(writes []impl.Entry)) {
	var grow func(writes []impl.Entry)
	grow = func(writes []impl.Entry) {
		visit(writes)
		if len(writes) == length {
			return
		}
		for ts := uint64(1); ts <= 3; ts++ {
			val := string([]byte{byte('a' + len(writes))})
			grow(append(slices.Clone(writes), put("r", "f", "q", ts, val)))
			grow(append(slices.Clone(writes), del("r", "f", "q", ts)))
			grow(append(slices.Clone(writes), delCol("r", "f", "q", ts)))
		}
	}
	grow(nil)
}

func wantCells(t *testing.T, name string, got, want []impl.Cell) {
	t.Helper()
	if !slices.Equal(got, want) {
		t.Errorf("%s:\n got %#v\nwant %#v", name, got, want)
	}
}

func wantEntries(t *testing.T, name string, got, want []impl.Entry) {
	t.Helper()
	if !slices.Equal(got, want) {
		t.Errorf("%s:\n got %#v\nwant %#v", name, got, want)
	}
}

// guarded lays the entries into memory with room behind them, so that an append into an argument is seen.
func guarded(entries []impl.Entry) (arg, whole []impl.Entry) {
	whole = slices.Clone(entries)
	for i := 0; i < 4; i++ {
		whole = append(whole, put("guard", "g", "g", uint64(i), "g"))
	}
	return whole[:len(entries)], whole
}

func spoilEntries(entries []impl.Entry) {
	entries = entries[:cap(entries)]
	for i := range entries {
		entries[i] = put("spoiled", "s", "s", 9, "s")
	}
}

func spoilCells(cells []impl.Cell) {
	cells = cells[:cap(cells)]
	for i := range cells {
		cells[i] = cellOf(put("spoiled", "s", "s", 9, "s"))
	}
}
