package tests

import (
	"math"
	"slices"
	"strings"
	"testing"

	"loop.example/s01854/impl"
)

// stackOf cuts the writes before the given places and builds a run of each piece, newest first.
func stackOf(writes []impl.Entry, cuts []int) []impl.Run {
	var runs []impl.Run
	from := 0
	for _, to := range append(slices.Clone(cuts), len(writes)) {
		runs = slices.Insert(runs, 0, impl.BuildRun(writes[from:to]))
		from = to
	}
	return runs
}

func cellsIn(cells []impl.Cell, rg impl.Range) []impl.Cell {
	var in []impl.Cell
	for _, c := range cells {
		if modelIn(rg, c.Row) {
			in = append(in, c)
		}
	}
	return in
}

func someRanges() []impl.Range {
	ranges := []impl.Range{{}, {Hi: "a"}, {HasHi: true}, {Lo: strings.Repeat("\xff", 65)}, {HasHi: true, Hi: strings.Repeat("\xff", 65)},
		{Lo: "b", HasHi: true, Hi: "a"}, {Lo: "b", HasHi: true, Hi: "b"}, {Lo: "b", HasHi: true}, {Lo: "a", HasHi: true, Hi: "a\x00"}}
	for _, row := range someRows {
		ranges = append(ranges, impl.Range{Lo: row}, impl.Range{HasHi: true, Hi: row}, impl.Range{Lo: row, HasHi: true, Hi: row + "\x00"}, impl.Range{Lo: "a", HasHi: true, Hi: row})
	}
	return ranges
}

func TestInRange(t *testing.T) {
	long := strings.Repeat("z", 100)
	for _, c := range []struct {
		rg   impl.Range
		row  string
		want bool
	}{
		{impl.Range{}, "", true},
		{impl.Range{}, long, true},
		{impl.Range{Lo: "b"}, "a", false},
		{impl.Range{Lo: "b"}, "b", true},
		{impl.Range{Lo: "b"}, "b\x00", true},
		{impl.Range{Lo: "ba"}, "b", false},
		{impl.Range{Lo: "\x80"}, "\x7f", false},
		{impl.Range{Lo: "\x7f"}, "\x80", true},
		{impl.Range{Hi: "a"}, "b", true},
		{impl.Range{HasHi: true}, "", false},
		{impl.Range{HasHi: true}, "a", false},
		{impl.Range{HasHi: true, Hi: "b"}, "", true},
		{impl.Range{HasHi: true, Hi: "b"}, "a\xff", true},
		{impl.Range{HasHi: true, Hi: "b"}, "b", false},
		{impl.Range{HasHi: true, Hi: "ba"}, "b", true},
		{impl.Range{Lo: "a", HasHi: true, Hi: "c"}, "c", false},
		{impl.Range{Lo: "a", HasHi: true, Hi: "c"}, "a", true},
		{impl.Range{Lo: "b", HasHi: true, Hi: "b"}, "b", false},
		{impl.Range{Lo: "c", HasHi: true, Hi: "a"}, "b", false},
		{impl.Range{Lo: long, HasHi: true, Hi: long + "z"}, long, true},
	} {
		if got := impl.InRange(c.rg, c.row); got != c.want {
			t.Errorf("%q in %#v: %v", c.row, c.rg, got)
		}
	}
	for _, rg := range someRanges() {
		for _, row := range someRows {
			if got := impl.InRange(rg, row); got != modelIn(rg, row) {
				t.Errorf("%q in %#v: %v", row, rg, got)
			}
		}
	}
}

func TestMergeEveryCutOfOneColumn(t *testing.T) {
	everyList(4, func(writes []impl.Entry) {
		want := modelReplay(writes)
		for mask := 0; mask < 1<<len(writes); mask++ {
			var cuts []int
			for i := range writes {
				if mask>>i&1 == 1 {
					cuts = append(cuts, i)
				}
			}
			if got := impl.MergeRuns(stackOf(writes, cuts), impl.Range{}); !slices.Equal(got, want) {
				t.Fatalf("%#v cut at %v:\n got %#v\nwant %#v", writes, cuts, got, want)
			}
		}
	})
}

func TestMergeSomeCutsOfManyColumns(t *testing.T) {
	d := &dice{state: 11}
	for i := 0; i < 200; i++ {
		writes := someWrites(d, 1+d.roll(80), 1+i%len(someRows))
		var cuts []int
		for n := d.roll(impl.RunsMax); n > 0; n-- {
			cuts = append(cuts, d.roll(len(writes)+1))
		}
		slices.Sort(cuts)
		runs := stackOf(writes, cuts)
		all := modelReplay(writes)
		for _, rg := range someRanges() {
			got, want := impl.MergeRuns(runs, rg), cellsIn(all, rg)
			if !slices.Equal(got, want) {
				t.Fatalf("%#v cut at %v in %#v:\n got %#v\nwant %#v", writes, cuts, rg, got, want)
			}
			if !slices.Equal(got, cellsIn(impl.Replay(writes), rg)) {
				t.Fatalf("%#v cut at %v in %#v: the replay shows other cells", writes, cuts, rg)
			}
		}
	}
}

// Stacks of runs that no list of writes was cut into: the rule of chapter 3 alone decides.
func TestMergeAnyStack(t *testing.T) {
	d := &dice{state: 23}
	for i := 0; i < 300; i++ {
		var runs []impl.Run
		for n := d.roll(6); n > 0; n-- {
			runs = append(runs, impl.BuildRun(someWrites(d, d.roll(25), 1+i%4)))
		}
		for _, rg := range someRanges()[:12] {
			if got, want := impl.MergeRuns(runs, rg), modelMerge(runs, rg); !slices.Equal(got, want) {
				t.Fatalf("%#v in %#v:\n got %#v\nwant %#v", runs, rg, got, want)
			}
		}
	}
}

func runOf(entries ...impl.Entry) impl.Run { return impl.Run{Entries: entries} }

func TestMergeByHand(t *testing.T) {
	const top = math.MaxUint64
	p := func(ts uint64, val string) impl.Entry { return put("r", "f", "q", ts, val) }
	x := func(ts uint64) impl.Entry { return del("r", "f", "q", ts) }
	c := func(ts uint64) impl.Entry { return delCol("r", "f", "q", ts) }
	old := runOf(p(6, "o6"), p(5, "o5"), p(4, "o4"))
	for _, m := range []struct {
		name string
		runs []impl.Run
		want []impl.Entry
	}{
		{"no run", nil, nil},
		{"empty runs", []impl.Run{{}, {}, {}}, nil},
		{"one run", []impl.Run{old}, old.Entries},
		{"the newest of equal keys", []impl.Run{runOf(p(5, "n")), runOf(p(5, "m")), old}, []impl.Entry{p(6, "o6"), p(5, "n"), p(4, "o4")}},
		{"a newer del", []impl.Run{runOf(x(5)), old}, []impl.Entry{p(6, "o6"), p(4, "o4")}},
		{"an older del", []impl.Run{old, runOf(x(5))}, old.Entries},
		{"a put over a del over a put", []impl.Run{runOf(p(5, "n")), runOf(x(5)), old}, []impl.Entry{p(6, "o6"), p(5, "n"), p(4, "o4")}},
		{"a newer delete", []impl.Run{runOf(c(5)), old}, []impl.Entry{p(6, "o6")}},
		{"an older delete", []impl.Run{old, runOf(c(9))}, old.Entries},
		{"a delete between", []impl.Run{runOf(p(4, "n")), runOf(c(9)), old}, []impl.Entry{p(4, "n")}},
		{"a delete beside its own put", []impl.Run{runOf(c(5), p(5, "n")), old}, []impl.Entry{p(6, "o6"), p(5, "n")}},
		{"a delete beside its own older put", []impl.Run{runOf(c(9), p(1, "n")), old}, []impl.Entry{p(1, "n")}},
		{"a delete beside its own del", []impl.Run{runOf(c(4), x(6)), old}, []impl.Entry{p(5, "o5")}},
		{"a delete over a run's own pair", []impl.Run{runOf(c(5)), runOf(c(9), p(5, "n")), old}, nil},
		{"a small delete over a large one", []impl.Run{runOf(c(4)), runOf(c(5)), old}, []impl.Entry{p(6, "o6")}},
		{"a large delete over a small one", []impl.Run{runOf(c(5)), runOf(c(4)), old}, []impl.Entry{p(6, "o6")}},
		{"the smaller of two deletes is above the put", []impl.Run{runOf(c(4)), runOf(c(9), p(5, "m")), old}, []impl.Entry{p(5, "m")}},
		{"a delete at the top", []impl.Run{runOf(c(top)), runOf(p(top, "a"), p(0, "b"))}, nil},
		{"a delete at 0", []impl.Run{runOf(c(0)), runOf(p(1, "a"), p(0, "b"))}, []impl.Entry{p(1, "a")}},
		{"an empty value", []impl.Run{runOf(p(5, "")), old}, []impl.Entry{p(6, "o6"), p(5, ""), p(4, "o4")}},
		{"a delete of another column", []impl.Run{runOf(delCol("r", "f", "p", 9), delCol("r", "g", "q", 9), delCol("s", "f", "q", 9)), old}, old.Entries},
		{"parts are not joined", []impl.Run{runOf(delCol("a", "bc", "d", 9)), runOf(put("a", "b", "cd", 1, "x"), put("a", "bc", "d", 1, "y"), put("ab", "c", "d", 1, "z"))},
			[]impl.Entry{put("a", "b", "cd", 1, "x"), put("ab", "c", "d", 1, "z")}},
		{"columns go into each other", []impl.Run{runOf(put("a", "f", "q", 1, "1"), put("c", "f", "q", 1, "3")), runOf(put("b", "f", "q", 1, "2"), put("\xff", "f", "q", 1, "4"))},
			[]impl.Entry{put("a", "f", "q", 1, "1"), put("b", "f", "q", 1, "2"), put("c", "f", "q", 1, "3"), put("\xff", "f", "q", 1, "4")}},
	} {
		wantCells(t, m.name, impl.MergeRuns(m.runs, impl.Range{}), cellsOf(m.want...))
		wantEntries(t, m.name+", compacted", impl.CompactRuns(m.runs).Entries, m.want)
	}
}

func TestMergeManyRuns(t *testing.T) {
	var runs []impl.Run
	for i := 0; i < impl.RunsMax; i++ {
		runs = append(runs, runOf(put("r", "f", "q", 5, string(rune('A'+i)))))
	}
	want := []impl.Entry{put("r", "f", "q", 5, "A")}
	wantCells(t, "RunsMax runs", impl.MergeRuns(runs, impl.Range{}), cellsOf(want...))
	wantEntries(t, "RunsMax runs compacted", impl.CompactRuns(runs).Entries, want)
	for _, more := range [][]impl.Run{append(slices.Clone(runs), impl.Run{}), append([]impl.Run{{}}, runs...), append(slices.Clone(runs), runs...)} {
		if got := impl.MergeRuns(more, impl.Range{}); len(got) != 0 {
			t.Errorf("%d runs: %#v", len(more), got)
		}
		if got := impl.CompactRuns(more); len(got.Entries) != 0 {
			t.Errorf("%d runs compacted: %#v", len(more), got)
		}
	}
}

func TestMergeRunsNotValid(t *testing.T) {
	good := runOf(put("r", "f", "q", 5, "x"))
	for name, bad := range map[string]impl.Run{
		"out of order":              runOf(put("z", "f", "q", 5, ""), put("y", "f", "q", 5, "")),
		"one key twice":             runOf(put("z", "f", "q", 5, ""), put("z", "f", "q", 5, "")),
		"two deletes of one column": runOf(delCol("z", "f", "q", 5), delCol("z", "f", "q", 4)),
		"an entry not valid":        runOf(put("z", "", "q", 5, "")),
		"a kind not valid":          runOf(impl.Entry{Row: "z", Fam: "f", Kind: 3}),
		"too many entries":          runOf(manyPuts("z", impl.RunMax+1)...),
	} {
		for at := 0; at < 3; at++ {
			runs := slices.Insert([]impl.Run{good, good}, at, bad)
			// The fault lies outside of the second range, and still the stack is not valid.
			for _, rg := range []impl.Range{{}, {HasHi: true, Hi: "s"}} {
				if got := impl.MergeRuns(runs, rg); len(got) != 0 {
					t.Errorf("%s at %d in %#v: %#v", name, at, rg, got)
				}
			}
			if got := impl.CompactRuns(runs); len(got.Entries) != 0 {
				t.Errorf("%s at %d, compacted: %#v", name, at, got)
			}
		}
	}
}

// checkCompact holds promise 3 for one stack of valid runs.
func checkCompact(t *testing.T, runs []impl.Run) {
	t.Helper()
	one := impl.CompactRuns(runs)
	if !impl.ValidRun(one) {
		t.Fatalf("the compacted run of %#v is not valid: %#v", runs, one.Entries)
	}
	for _, e := range one.Entries {
		if e.Kind != impl.KindPut {
			t.Fatalf("the compacted run of %#v has %#v", runs, e)
		}
	}
	for _, rg := range someRanges() {
		got, want := impl.MergeRuns([]impl.Run{one}, rg), modelMerge(runs, rg)
		if !slices.Equal(got, want) || !slices.Equal(got, impl.MergeRuns(runs, rg)) {
			t.Fatalf("%#v in %#v, compacted:\n got %#v\nwant %#v", runs, rg, got, want)
		}
	}
}

func TestCompactShowsTheSame(t *testing.T) {
	d := &dice{state: 31}
	for i := 0; i < 150; i++ {
		var runs []impl.Run
		for n := d.roll(5); n > 0; n-- {
			runs = append(runs, impl.BuildRun(someWrites(d, d.roll(20), 1+i%len(someRows))))
		}
		checkCompact(t, runs)
	}
	checkCompact(t, nil)
	checkCompact(t, []impl.Run{{}})
	checkCompact(t, []impl.Run{runOf(delCol("a", "f", "q", 9)), runOf(put("a", "f", "q", 9, "x"))})
}

func TestCompactAtRunMax(t *testing.T) {
	left, right := manyPuts("a", impl.RunMax/2), manyPuts("b", impl.RunMax/2)
	full := append(slices.Clone(left), right...)
	one := put("c", "f", "q", 1, "x")
	for _, c := range []struct {
		name string
		runs []impl.Run
		want []impl.Entry
	}{
		{"RunMax cells", []impl.Run{runOf(right...), runOf(left...)}, full},
		{"RunMax cells, each written twice", []impl.Run{runOf(full...), runOf(right...), runOf(left...)}, full},
		{"RunMax + 1 writes, one hidden", []impl.Run{runOf(delCol("c", "f", "q", 1)), runOf(one), runOf(full...)}, full},
		{"RunMax + 1 cells", []impl.Run{runOf(one), runOf(full...)}, nil},
		{"twice RunMax cells", []impl.Run{runOf(manyPuts("c", impl.RunMax)...), runOf(full...)}, nil},
	} {
		got := impl.CompactRuns(c.runs)
		if !impl.ValidRun(got) || !slices.Equal(got.Entries, c.want) {
			t.Errorf("%s: %d entries", c.name, len(got.Entries))
		}
	}
	all := append(slices.Clone(full), manyPuts("c", impl.RunMax)...)
	if got := impl.MergeRuns([]impl.Run{runOf(all[impl.RunMax:]...), runOf(full...)}, impl.Range{}); !slices.Equal(got, cellsOf(all...)) {
		t.Errorf("more than RunMax cells are shown, but not compacted: %d of them", len(got))
	}
}

func TestRunsAreNotTouched(t *testing.T) {
	d := &dice{state: 41}
	for i := 0; i < 50; i++ {
		var runs []impl.Run
		var wholes, before [][]impl.Entry
		for n := 0; n < 4; n++ {
			entries, whole := guarded(impl.BuildRun(someWrites(d, 20, 3)).Entries)
			runs = append(runs, impl.Run{Entries: entries})
			wholes, before = append(wholes, whole), append(before, slices.Clone(whole))
		}
		stack := slices.Clone(runs)
		untouched := func(name string) {
			for n := range runs {
				wantEntries(t, name, wholes[n], before[n])
				if len(runs[n].Entries) != len(stack[n].Entries) || &runs[n].Entries[0] != &stack[n].Entries[0] {
					t.Errorf("%s: run %d is another one", name, n)
				}
			}
		}
		cells, one := impl.MergeRuns(runs, impl.Range{Lo: "a"}), impl.CompactRuns(runs)
		untouched("after the calls")
		wantSeen, wantOne := slices.Clone(cells), slices.Clone(one.Entries)
		for n := range wholes {
			spoilEntries(wholes[n])
		}
		wantCells(t, "the cells after the runs are spoiled", cells, wantSeen)
		wantEntries(t, "the compacted run after the runs are spoiled", one.Entries, wantOne)
		for n := range wholes {
			copy(wholes[n], before[n])
		}
		spoilCells(cells)
		spoilEntries(one.Entries)
		untouched("after the answers are spoiled")
	}
}

// A full stack of full runs is merged in one pass over the entries.
func TestMergeFullStack(t *testing.T) {
	var runs []impl.Run
	for i := 0; i < impl.RunsMax; i++ {
		entries := []impl.Entry{delCol("a", "f", "q", uint64(i))}
		for n := impl.RunMax - 1; n > 0; n-- {
			entries = append(entries, put("a", "f", "q", uint64(n*impl.RunsMax+i), "v"))
		}
		runs = append(runs, runOf(entries...))
	}
	cells := impl.MergeRuns(runs, impl.Range{})
	if len(cells) != impl.RunsMax*(impl.RunMax-1) {
		t.Fatalf("%d cells", len(cells))
	}
	for i := range cells {
		if want := uint64(impl.RunsMax*impl.RunMax - 1 - i); cells[i].Ts != want {
			t.Fatalf("cell %d has timestamp %d, not %d", i, cells[i].Ts, want)
		}
	}
}
