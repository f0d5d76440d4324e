package impl

import (
	"container/heap"
	"math"
	"slices"
)

const RunsMax = 50

type Range struct {
	Lo    string
	HasHi bool
	Hi    string
}

// cursor goes over the entries of one source in the order of keys; it always stands at an entry.
type cursor interface {
	entry() Entry
	// age is the place of the source in the stack: 0 for the newest.
	age() int
	// advance tells false, and stays, at the last entry.
	advance() bool
}

type runCursor struct {
	entries []Entry
	at      int
	depth   int
}

// cursorHeap is a heap.Interface with the least key, and on equal keys the newest run, at the top.
type cursorHeap []cursor

// columnDelete is a delete of the column at hand, by the run of that age.
type columnDelete struct {
	age int
	ts  uint64
}

// merger takes the entries of all runs in the order of the heap and gathers the visible cells.
type merger struct {
	at      column
	deletes []columnDelete
	decided bool
	ts      uint64
	cells   []Cell
}

func InRange(rg Range, row string) bool {
	return row >= rg.Lo && (!rg.HasHi || row < rg.Hi)
}

func MergeRuns(runs []Run, rg Range) []Cell {
	if !validStack(runs) {
		return []Cell{}
	}
	m := merger{cells: []Cell{}}
	h := openCursors(runs, rg)
	for h.Len() > 0 {
		m.take(h[0].entry(), h[0].age())
		h.step()
	}
	return m.cells
}

func CompactRuns(runs []Run) Run {
	cells := MergeRuns(runs, Range{})
	if len(cells) > RunMax {
		return Run{}
	}
	entries := make([]Entry, 0, len(cells))
	for _, c := range cells {
		entries = append(entries, c.put())
	}
	return Run{Entries: entries}
}

func (c Cell) put() Entry {
	return Entry{Row: c.Row, Fam: c.Fam, Qual: c.Qual, Ts: c.Ts, Kind: KindPut, Val: c.Val}
}

func validStack(runs []Run) bool {
	if len(runs) > RunsMax {
		return false
	}
	for _, r := range runs {
		if !ValidRun(r) {
			return false
		}
	}
	return true
}

// entriesIn gives a part of a valid run's own list, to be read alone.
func entriesIn(r Run, rg Range) []Entry {
	from := firstAt(r, rg.Lo)
	to := len(r.Entries)
	if rg.HasHi {
		to = firstAt(r, rg.Hi)
	}
	return r.Entries[from:max(from, to)]
}

// firstAt searches for a key that stands before every valid entry of the row, since none of those has an empty Fam.
func firstAt(r Run, row string) int {
	least := Entry{Row: row, Kind: KindDelCol, Ts: math.MaxUint64}
	i, _ := slices.BinarySearchFunc(r.Entries, least, Entry.compare)
	return i
}

func openCursors(runs []Run, rg Range) cursorHeap {
	h := make(cursorHeap, 0, len(runs))
	for i, r := range runs {
		if part := entriesIn(r, rg); len(part) > 0 {
			h = append(h, &runCursor{entries: part, depth: i})
		}
	}
	heap.Init(&h)
	return h
}

func (c *runCursor) entry() Entry { return c.entries[c.at] }

func (c *runCursor) age() int { return c.depth }

func (c *runCursor) advance() bool {
	if c.at+1 >= len(c.entries) {
		return false
	}
	c.at++
	return true
}

func (h cursorHeap) Len() int { return len(h) }

func (h cursorHeap) Less(i, j int) bool {
	if c := h[i].entry().compare(h[j].entry()); c != 0 {
		return c < 0
	}
	return h[i].age() < h[j].age()
}

func (h cursorHeap) Swap(i, j int) { h[i], h[j] = h[j], h[i] }

func (h *cursorHeap) Push(x any) {
	if c, ok := x.(cursor); ok {
		*h = append(*h, c)
	}
}

func (h *cursorHeap) Pop() any {
	last := len(*h) - 1
	c := (*h)[last]
	*h = (*h)[:last]
	return c
}

// step moves the top cursor on and puts the heap right again.
func (h *cursorHeap) step() {
	if (*h)[0].advance() {
		heap.Fix(h, 0)
		return
	}
	heap.Pop(h)
}

// take relies on the order of the heap: a column's deletes come before its keys, and of the entries at one key the newest run's comes first.
func (m *merger) take(e Entry, age int) {
	if at := e.column(); at != m.at {
		m.at = at
		m.deletes = m.deletes[:0]
		m.decided = false
	}
	if e.Kind == KindDelCol {
		m.deletes = append(m.deletes, columnDelete{age: age, ts: e.Ts})
		return
	}
	if m.decided && m.ts == e.Ts {
		return
	}
	m.decided = true
	m.ts = e.Ts
	if e.Kind == KindPut && !m.hides(e.Ts, age) {
		m.cells = append(m.cells, e.cell())
	}
}

// hides asks the newer runs alone: a run's own delete of a column says nothing of its own entries.
func (m *merger) hides(ts uint64, age int) bool {
	for _, d := range m.deletes {
		if d.age < age && d.ts >= ts {
			return true
		}
	}
	return false
}
