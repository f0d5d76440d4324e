package tests

import (
	"math"
	"slices"
	"strings"
	"testing"

	"loop.example/s01854/impl"
)

func TestValidEntryLengths(t *testing.T) {
	text := func(n int) string { return strings.Repeat("\xff", n) }
	for _, c := range []struct {
		name  string
		entry impl.Entry
		want  bool
	}{
		{"row 0", put(text(0), "f", "q", 1, "v"), false},
		{"row 1", put(text(1), "f", "q", 1, "v"), true},
		{"row 64", put(text(64), "f", "q", 1, "v"), true},
		{"row 65", put(text(65), "f", "q", 1, "v"), false},
		{"fam 0", put("r", text(0), "q", 1, "v"), false},
		{"fam 1", put("r", text(1), "q", 1, "v"), true},
		{"fam 16", put("r", text(16), "q", 1, "v"), true},
		{"fam 17", put("r", text(17), "q", 1, "v"), false},
		{"qual 0", put("r", "f", text(0), 1, "v"), true},
		{"qual 1", put("r", "f", text(1), 1, "v"), true},
		{"qual 64", put("r", "f", text(64), 1, "v"), true},
		{"qual 65", put("r", "f", text(65), 1, "v"), false},
		{"val 0", put("r", "f", "q", 1, text(0)), true},
		{"val 1", put("r", "f", "q", 1, text(1)), true},
		{"val 200", put("r", "f", "q", 1, text(200)), true},
		{"val 201", put("r", "f", "q", 1, text(201)), false},
		{"all the largest", put(text(64), text(16), text(64), math.MaxUint64, text(200)), true},
		{"all the least", put("\x00", "\x00", "", 0, ""), true},
		{"the zero entry", impl.Entry{}, false},
		{"64 letters of two bytes", put(strings.Repeat("ä", 64), "f", "q", 1, "v"), false},
		{"32 letters of two bytes", put(strings.Repeat("ä", 32), "f", "q", 1, "v"), true},
	} {
		if got := impl.ValidEntry(c.entry); got != c.want {
			t.Errorf("%s: %v", c.name, got)
		}
	}
}

func TestValidEntryKinds(t *testing.T) {
	for _, kind := range []int64{math.MinInt64, -1, 0, 1, 2, 3, 256, 1 << 32, math.MaxInt64} {
		for _, val := range []string{"", "\x00", "v"} {
			for _, ts := range []uint64{0, math.MaxUint64} {
				e := impl.Entry{Row: "r", Fam: "f", Qual: "q", Ts: ts, Kind: kind, Val: val}
				want := kind == 0 || (kind == 1 || kind == 2) && val == ""
				if got := impl.ValidEntry(e); got != want {
					t.Errorf("kind %d, val %q, ts %d: %v", kind, val, ts, got)
				}
			}
		}
	}
}

func TestCompareKeysByModel(t *testing.T) {
	var keys []impl.Entry
	for _, row := range []string{"", "\x00", "a", "a\x00", "ab", "b", "\x7f", "\x80", "\xff", strings.Repeat("z", 300)} {
		for _, fam := range []string{"", "f", "\xff"} {
			for _, qual := range []string{"", "q", "\x80"} {
				for _, ts := range []uint64{0, 1, 1 << 63, math.MaxUint64} {
					for _, kind := range []int64{-1, 0, 1, 2, 3} {
						keys = append(keys, impl.Entry{Row: row, Fam: fam, Qual: qual, Ts: ts, Kind: kind, Val: row})
					}
				}
			}
		}
	}
	for i, a := range keys {
		for j := i % 7; j < len(keys); j += 7 {
			b := keys[j]
			if got, want := impl.CompareKeys(a, b), modelCompare(a, b); got != want {
				t.Fatalf("%#v against %#v: %d, want %d", a, b, got, want)
			}
			if impl.CompareKeys(a, b) != -impl.CompareKeys(b, a) {
				t.Fatalf("%#v and %#v are not told the other way round", a, b)
			}
		}
	}
}

func TestCompareKeysFirstDifference(t *testing.T) {
	for _, c := range []struct {
		name string
		a, b impl.Entry
		want int64
	}{
		{"row before all else", put("a", "z", "z", 1, "z"), delCol("b", "a", "a", 9), -1},
		{"fam before qual", put("a", "a", "z", 1, ""), put("a", "b", "a", 9, ""), -1},
		{"qual before the kind", put("a", "a", "a", 1, ""), delCol("a", "a", "b", 9), -1},
		{"the kind before the timestamp", delCol("a", "a", "a", 1), put("a", "a", "a", 9, ""), -1},
		{"the kind before the timestamp, turned", del("a", "a", "a", 9), delCol("a", "a", "a", 1), 1},
		{"the larger timestamp first", put("a", "a", "a", 9, ""), put("a", "a", "a", 8, ""), -1},
		{"the larger timestamp of deletes first", delCol("a", "a", "a", 8), delCol("a", "a", "a", 9), 1},
		{"0 behind the largest", put("a", "a", "a", 0, ""), put("a", "a", "a", math.MaxUint64, ""), 1},
		{"put and del", put("a", "a", "a", 9, "x"), del("a", "a", "a", 9), 0},
		{"values", put("a", "a", "a", 9, "x"), put("a", "a", "a", 9, "y"), 0},
		{"bytes, not signs", put("\x80", "a", "a", 9, ""), put("\x7f", "a", "a", 9, ""), 1},
		{"the shorter first", put("ab", "a", "a", 9, ""), put("a", "a", "a", 9, ""), 1},
		{"parts are not joined", put("a", "bc", "a", 9, ""), put("ab", "c", "a", 9, ""), -1},
	} {
		if got := impl.CompareKeys(c.a, c.b); got != c.want {
			t.Errorf("%s: %d", c.name, got)
		}
	}
}

// manyPuts gives n valid puts of different rows, in order.
func manyPuts(prefix string, n int) []impl.Entry {
	var entries []impl.Entry
	for i := 0; i < n; i++ {
		row := prefix + string([]byte{byte(i >> 16), byte(i >> 8), byte(i)})
		entries = append(entries, put(row, "f", "q", 1, "v"))
	}
	return entries
}

func TestValidRun(t *testing.T) {
	x, y := put("a", "f", "q", 5, "x"), put("a", "f", "q", 4, "y")
	bad := put("z", "", "q", 1, "")
	for _, c := range []struct {
		name    string
		entries []impl.Entry
		want    bool
	}{
		{"empty", nil, true},
		{"one", []impl.Entry{x}, true},
		{"one delete of a column", []impl.Entry{delCol("a", "f", "q", 0)}, true},
		{"in order", []impl.Entry{x, y}, true},
		{"out of order", []impl.Entry{y, x}, false},
		{"out of order at the end", []impl.Entry{x, y, put("b", "f", "q", 1, ""), put("a", "f", "z", 1, "")}, false},
		{"one key twice", []impl.Entry{x, x}, false},
		{"a put and a del of one key", []impl.Entry{x, del("a", "f", "q", 5)}, false},
		{"a delete before its column", []impl.Entry{delCol("a", "f", "q", 5), x, y}, true},
		{"a delete with a larger timestamp", []impl.Entry{delCol("a", "f", "q", 9), x, y}, true},
		{"a delete behind a put", []impl.Entry{x, delCol("a", "f", "q", 5)}, false},
		{"two deletes, the larger first", []impl.Entry{delCol("a", "f", "q", 5), delCol("a", "f", "q", 4)}, false},
		{"two deletes, the smaller first", []impl.Entry{delCol("a", "f", "q", 4), delCol("a", "f", "q", 5)}, false},
		{"two equal deletes", []impl.Entry{delCol("a", "f", "q", 5), delCol("a", "f", "q", 5)}, false},
		{"deletes of two quals", []impl.Entry{delCol("a", "f", "q", 5), delCol("a", "f", "r", 5)}, true},
		{"deletes of two fams", []impl.Entry{delCol("a", "f", "q", 5), delCol("a", "g", "q", 5)}, true},
		{"deletes of two rows", []impl.Entry{delCol("a", "f", "q", 5), delCol("b", "f", "q", 5)}, true},
		{"first not valid", []impl.Entry{put("", "f", "q", 1, ""), x}, false},
		{"last not valid", []impl.Entry{x, y, bad}, false},
		{"alone and not valid", []impl.Entry{bad}, false},
		{"kind 3", []impl.Entry{{Row: "a", Fam: "f", Kind: 3}}, false},
		{"del with a value", []impl.Entry{{Row: "a", Fam: "f", Kind: impl.KindDel, Val: "v"}}, false},
		{"RunMax", manyPuts("r", impl.RunMax), true},
		{"one more than RunMax", manyPuts("r", impl.RunMax+1), false},
	} {
		if got := impl.ValidRun(impl.Run{Entries: c.entries}); got != c.want {
			t.Errorf("%s: %v", c.name, got)
		}
	}
}

// checkWrites holds promise 1 for one list of valid writes.
func checkWrites(t *testing.T, writes []impl.Entry) {
	t.Helper()
	run := impl.BuildRun(writes)
	if !impl.ValidRun(run) {
		t.Fatalf("the run of %#v is not valid: %#v", writes, run.Entries)
	}
	if want := modelBuild(writes); !slices.Equal(run.Entries, want) {
		t.Fatalf("the run of %#v:\n got %#v\nwant %#v", writes, run.Entries, want)
	}
	if got, want := impl.Replay(writes), modelReplay(writes); !slices.Equal(got, want) {
		t.Fatalf("the replay of %#v:\n got %#v\nwant %#v", writes, got, want)
	}
}

func TestWritesOfOneColumn(t *testing.T) {
	everyList(4, func(writes []impl.Entry) { checkWrites(t, writes) })
}

func TestWritesOfManyColumns(t *testing.T) {
	d := &dice{state: 1}
	for i := 0; i < 600; i++ {
		checkWrites(t, someWrites(d, d.roll(60), 1+i%len(someRows)))
	}
	checkWrites(t, someWrites(d, 3000, len(someRows)))
}

func TestWritesByHand(t *testing.T) {
	const top = math.MaxUint64
	p := func(ts uint64, val string) impl.Entry { return put("r", "f", "q", ts, val) }
	x := func(ts uint64) impl.Entry { return del("r", "f", "q", ts) }
	c := func(ts uint64) impl.Entry { return delCol("r", "f", "q", ts) }
	for _, w := range []struct {
		name   string
		writes []impl.Entry
		run    []impl.Entry
	}{
		{"nothing", nil, nil},
		{"the last put counts", []impl.Entry{p(5, "a"), p(5, "b"), p(5, "")}, []impl.Entry{p(5, "")}},
		{"newest first", []impl.Entry{p(1, "a"), p(3, "c"), p(2, "b")}, []impl.Entry{p(3, "c"), p(2, "b"), p(1, "a")}},
		{"del of a put", []impl.Entry{p(5, "a"), x(5)}, []impl.Entry{x(5)}},
		{"put over a del", []impl.Entry{x(5), p(5, "a")}, []impl.Entry{p(5, "a")}},
		{"del of another timestamp", []impl.Entry{p(5, "a"), x(4)}, []impl.Entry{p(5, "a"), x(4)}},
		{"a delete behind puts", []impl.Entry{p(4, "a"), p(5, "b"), p(6, "c"), c(5)}, []impl.Entry{c(5), p(6, "c")}},
		{"a delete before puts", []impl.Entry{c(5), p(4, "a"), p(5, "b"), p(6, "c")}, []impl.Entry{c(5), p(6, "c"), p(5, "b"), p(4, "a")}},
		{"a delete takes dels too", []impl.Entry{x(4), x(5), x(6), c(5)}, []impl.Entry{c(5), x(6)}},
		{"dels behind a delete stay", []impl.Entry{c(5), x(4), x(6)}, []impl.Entry{c(5), x(6), x(4)}},
		{"a put between two deletes", []impl.Entry{c(5), p(4, "a"), c(3)}, []impl.Entry{c(5), p(4, "a")}},
		{"a put between, then hidden", []impl.Entry{c(3), p(4, "a"), c(5)}, []impl.Entry{c(5)}},
		{"two deletes, the larger first", []impl.Entry{c(5), c(3)}, []impl.Entry{c(5)}},
		{"two deletes, the smaller first", []impl.Entry{c(3), c(5)}, []impl.Entry{c(5)}},
		{"a delete at 0", []impl.Entry{p(0, "a"), p(1, "b"), c(0)}, []impl.Entry{c(0), p(1, "b")}},
		{"a delete at the top", []impl.Entry{p(0, "a"), p(top, "b"), c(top)}, []impl.Entry{c(top)}},
		{"a put at the top over a delete", []impl.Entry{c(top), p(top, "b"), p(0, "a")}, []impl.Entry{c(top), p(top, "b"), p(0, "a")}},
		{"a delete below the top", []impl.Entry{p(top, "b"), c(top - 1)}, []impl.Entry{c(top - 1), p(top, "b")}},
		{"a put again at a hidden key", []impl.Entry{p(5, "a"), c(9), p(5, "b")}, []impl.Entry{c(9), p(5, "b")}},
		{"other columns stay", []impl.Entry{put("r", "f", "p", 1, "a"), put("r", "e", "q", 1, "b"), put("s", "f", "q", 1, "c"), c(9)},
			[]impl.Entry{put("r", "e", "q", 1, "b"), put("r", "f", "p", 1, "a"), c(9), put("s", "f", "q", 1, "c")}},
		{"parts are not joined", []impl.Entry{put("ab", "c", "d", 1, "x"), put("a", "bc", "d", 1, "y"), put("a", "b", "cd", 1, "z"), delCol("a", "bc", "d", 1)},
			[]impl.Entry{put("a", "b", "cd", 1, "z"), delCol("a", "bc", "d", 1), put("ab", "c", "d", 1, "x")}},
		{"bytes", []impl.Entry{put("\xff", "f", "q", 1, "\xff"), put("\x80", "f", "q", 1, "\x00"), put("\x7f", "f", "q", 1, "\xc3")},
			[]impl.Entry{put("\x7f", "f", "q", 1, "\xc3"), put("\x80", "f", "q", 1, "\x00"), put("\xff", "f", "q", 1, "\xff")}},
	} {
		var puts []impl.Entry
		for _, e := range w.run {
			if e.Kind == impl.KindPut {
				puts = append(puts, e)
			}
		}
		wantEntries(t, w.name, impl.BuildRun(w.writes).Entries, w.run)
		wantCells(t, w.name, impl.Replay(w.writes), cellsOf(puts...))
	}
}

func TestWritesNotValid(t *testing.T) {
	good := []impl.Entry{put("a", "f", "q", 1, "x"), put("b", "f", "q", 1, "y")}
	long := strings.Repeat("x", 201)
	for _, bad := range []impl.Entry{{}, put("", "f", "q", 1, ""), put(long[:65], "f", "q", 1, ""), put("a", "", "q", 1, ""), put("a", long[:17], "q", 1, ""),
		put("a", "f", long[:65], 1, ""), put("a", "f", "q", 1, long), {Row: "a", Fam: "f", Kind: -1}, {Row: "a", Fam: "f", Kind: 3},
		{Row: "a", Fam: "f", Kind: impl.KindDel, Val: "v"}, {Row: "a", Fam: "f", Kind: impl.KindDelCol, Val: "v"}} {
		for at := 0; at <= len(good); at++ {
			writes := slices.Insert(slices.Clone(good), at, bad)
			if got := impl.BuildRun(writes); len(got.Entries) != 0 {
				t.Errorf("run with %#v at %d: %#v", bad, at, got)
			}
			if got := impl.Replay(writes); len(got) != 0 {
				t.Errorf("replay with %#v at %d: %#v", bad, at, got)
			}
		}
	}
}

func TestWritesAtRunMax(t *testing.T) {
	many := manyPuts("r", impl.RunMax)
	wantEntries(t, "RunMax writes", impl.BuildRun(many).Entries, many)
	wantCells(t, "RunMax writes replayed", impl.Replay(many), cellsOf(many...))
	one := put("r", "f", "q", 1, "v")
	again := slices.Repeat([]impl.Entry{one}, impl.RunMax)
	wantEntries(t, "one write RunMax times", impl.BuildRun(again).Entries, []impl.Entry{one})
	for _, writes := range [][]impl.Entry{manyPuts("r", impl.RunMax+1), append(again, one)} {
		if len(impl.BuildRun(writes).Entries) != 0 || len(impl.Replay(writes)) != 0 {
			t.Errorf("more than RunMax writes of %q are taken", writes[0].Row)
		}
	}
}

// A column with thousands of puts and as many deletes ends soon, whatever order they come in.
func TestWritesManyDeletesOfOneColumn(t *testing.T) {
	var writes, kept []impl.Entry
	for i := 0; i < impl.RunMax/2; i++ {
		p := put("r", "f", "q", uint64(impl.RunMax+i), "v")
		writes = append(writes, p, delCol("r", "f", "q", uint64(i)))
		kept = append(kept, p)
	}
	kept = append(kept, delCol("r", "f", "q", uint64(impl.RunMax/2-1)))
	slices.Reverse(kept)
	wantEntries(t, "run", impl.BuildRun(writes).Entries, kept)
}

func TestWritesAreNotTouched(t *testing.T) {
	d := &dice{state: 7}
	for i := 0; i < 50; i++ {
		writes, whole := guarded(someWrites(d, 30, 3))
		before := slices.Clone(whole)
		run, cells := impl.BuildRun(writes), impl.Replay(writes)
		impl.ValidRun(impl.Run{Entries: writes})
		wantEntries(t, "the writes after the calls", whole, before)
		wantRun, wantSeen := slices.Clone(run.Entries), slices.Clone(cells)
		spoilEntries(whole)
		wantEntries(t, "the run after the writes are spoiled", run.Entries, wantRun)
		wantCells(t, "the cells after the writes are spoiled", cells, wantSeen)
		copy(whole, before)
		spoilEntries(run.Entries)
		spoilCells(cells)
		wantEntries(t, "the writes after the answers are spoiled", whole, before)
	}
}

func TestValidRunIsNotTouched(t *testing.T) {
	run, whole := guarded(impl.BuildRun(someWrites(&dice{state: 3}, 40, 4)).Entries)
	before := slices.Clone(whole)
	if !impl.ValidRun(impl.Run{Entries: run}) {
		t.Errorf("the run is not valid")
	}
	wantEntries(t, "the run after the call", whole, before)
}
