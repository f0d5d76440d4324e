// Package impl is a scan engine for wide tables, one file a layer.
package impl

import (
	"cmp"
	"slices"
	"strings"
)

const (
	RowMax  = 64
	FamMax  = 16
	QualMax = 64
	ValMax  = 200
	RunMax  = 10000
)

const (
	KindPut    = 0
	KindDel    = 1
	KindDelCol = 2
)

type Entry struct {
	Row  string
	Fam  string
	Qual string
	Ts   uint64
	Kind int64
	Val  string
}

type Cell struct {
	Row  string
	Fam  string
	Qual string
	Ts   uint64
	Val  string
}

type Run struct {
	Entries []Entry
}

// column is what a delete of a column speaks of: a key without its timestamp.
type column struct {
	row  string
	fam  string
	qual string
}

// columnWrites is what a list of writes leaves of one column.
type columnWrites struct {
	deleted bool
	upTo    uint64
	byTs    map[uint64]Entry
}

func CompareKeys(a Entry, b Entry) int64 { return int64(a.compare(b)) }

func ValidEntry(e Entry) bool {
	if len(e.Row) < 1 || len(e.Row) > RowMax || len(e.Fam) < 1 || len(e.Fam) > FamMax {
		return false
	}
	if len(e.Qual) > QualMax || len(e.Val) > ValMax {
		return false
	}
	switch e.Kind {
	case KindPut:
		return true
	case KindDel, KindDelCol:
		return e.Val == ""
	}
	return false
}

func ValidRun(r Run) bool {
	if !validWrites(r.Entries) {
		return false
	}
	for i := 1; i < len(r.Entries); i++ {
		if !r.Entries[i-1].mayPrecede(r.Entries[i]) {
			return false
		}
	}
	return true
}

func BuildRun(writes []Entry) Run {
	if !validWrites(writes) {
		return Run{}
	}
	entries := make([]Entry, 0, len(writes))
	for at, left := range gatherColumns(writes) {
		entries = left.appendEntries(entries, at)
	}
	slices.SortFunc(entries, Entry.compare)
	return Run{Entries: entries}
}

// Replay needs no table of its own: what the deletes of a list hid is gone from its run, so the puts left there are the visible cells.
func Replay(writes []Entry) []Cell {
	cells := []Cell{}
	for _, e := range BuildRun(writes).Entries {
		if e.Kind == KindPut {
			cells = append(cells, e.cell())
		}
	}
	return cells
}

func (e Entry) compare(o Entry) int {
	if c := e.compareColumns(o); c != 0 {
		return c
	}
	if (e.Kind == KindDelCol) != (o.Kind == KindDelCol) {
		if e.Kind == KindDelCol {
			return -1
		}
		return 1
	}
	return cmp.Compare(o.Ts, e.Ts)
}

func (e Entry) compareColumns(o Entry) int {
	if c := strings.Compare(e.Row, o.Row); c != 0 {
		return c
	}
	if c := strings.Compare(e.Fam, o.Fam); c != 0 {
		return c
	}
	return strings.Compare(e.Qual, o.Qual)
}

// mayPrecede looks at neighbours alone: the deletes of one column stand side by side in the order of keys.
func (e Entry) mayPrecede(o Entry) bool {
	if e.Kind == KindDelCol && o.Kind == KindDelCol && e.column() == o.column() {
		return false
	}
	return e.compare(o) < 0
}

func (e Entry) column() column { return column{row: e.Row, fam: e.Fam, qual: e.Qual} }

func (e Entry) cell() Cell {
	return Cell{Row: e.Row, Fam: e.Fam, Qual: e.Qual, Ts: e.Ts, Val: e.Val}
}

func validWrites(writes []Entry) bool {
	if len(writes) > RunMax {
		return false
	}
	for _, w := range writes {
		if !ValidEntry(w) {
			return false
		}
	}
	return true
}

// gatherColumns goes from the last write to the first: each write is then settled by the later ones at once, and a delete of a column need not look for what it hides.
func gatherColumns(writes []Entry) map[column]columnWrites {
	columns := make(map[column]columnWrites)
	for i := len(writes) - 1; i >= 0; i-- {
		at := writes[i].column()
		columns[at] = columns[at].withEarlier(writes[i])
	}
	return columns
}

// withEarlier adds a write that stands before all those already taken in.
func (c columnWrites) withEarlier(w Entry) columnWrites {
	if w.Kind == KindDelCol {
		c.deleted = true
		c.upTo = max(c.upTo, w.Ts)
		return c
	}
	if c.deleted && w.Ts <= c.upTo {
		return c
	}
	if c.byTs == nil {
		c.byTs = make(map[uint64]Entry)
	}
	if _, replaced := c.byTs[w.Ts]; !replaced {
		c.byTs[w.Ts] = w
	}
	return c
}

func (c columnWrites) appendEntries(entries []Entry, at column) []Entry {
	if c.deleted {
		entries = append(entries, Entry{Row: at.row, Fam: at.fam, Qual: at.qual, Ts: c.upTo, Kind: KindDelCol})
	}
	for _, e := range c.byTs {
		entries = append(entries, e)
	}
	return entries
}
