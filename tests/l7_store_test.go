package tests

import (
	"fmt"
	"slices"
	"strings"
	"testing"

	"loop.example/s01854/impl"
)

func rowPut(row string) impl.Entry { return put(row, "f", "q", 1, row) }

func rowsRun(rows ...string) impl.Run {
	var entries []impl.Entry
	for _, row := range rows {
		entries = append(entries, rowPut(row))
	}
	return runOf(entries...)
}

func wantStore(t *testing.T, name string, got, want impl.Store) {
	t.Helper()
	if !sameStore(got, want) {
		t.Errorf("%s:\n got %+v\nwant %+v", name, got, want)
	}
}

func passFilter() impl.Filter { return bare(impl.NodePass).filter() }

// numbered gives n tablets, the first with an empty Lo, and no runs.
func numbered(n int) impl.Store {
	s := impl.Store{}
	for i := range n {
		lo := fmt.Sprintf("%03d", i)
		if i == 0 {
			lo = ""
		}
		s.Tablets = append(s.Tablets, tabletOf(lo))
	}
	return s
}

// sameRuns gives n runs of one put in the row.
func sameRuns(row string, n int) []impl.Run {
	var runs []impl.Run
	for i := range n {
		runs = append(runs, runOf(put(row, "f", "q", uint64(i), "v")))
	}
	return runs
}

func validStores() map[string]impl.Store {
	long := strings.Repeat("x", impl.RowMax)
	return map[string]impl.Store{
		"one tablet":                       storeOf(tabletOf("")),
		"TabletMax tablets":                numbered(impl.TabletMax),
		"a Lo of RowMax bytes":             storeOf(tabletOf(""), tabletOf(long)),
		"a row at a Lo of RowMax bytes":    storeOf(tabletOf(""), tabletOf(long, rowsRun(long))),
		"a Lo that another begins with":    storeOf(tabletOf(""), tabletOf("a"), tabletOf("a\x00")),
		"Los of bytes above 127":           storeOf(tabletOf(""), tabletOf("\x7f"), tabletOf("\x80"), tabletOf("\xff")),
		"RunsMax runs":                     storeOf(tabletOf("", sameRuns("a", impl.RunsMax)...)),
		"RunsMax runs in each of two":      storeOf(tabletOf("", sameRuns("a", impl.RunsMax)...), tabletOf("b", sameRuns("c", impl.RunsMax)...)),
		"a run of RunMax entries":          storeOf(tabletOf("", runOf(manyPuts("r", impl.RunMax)...))),
		"more than RunMax cells":           storeOf(tabletOf("", runOf(manyPuts("r", impl.RunMax)...), rowsRun("a"))),
		"a run of deletes":                 storeOf(tabletOf("", runOf(del("a", "f", "q", 1)), runOf(delCol("a", "f", "q", 1)))),
		"rows at the Lo of their tablets":  storeOf(tabletOf(""), tabletOf("c", rowsRun("c")), tabletOf("e", rowsRun("e", "f"))),
		"rows just below the next Lo":      storeOf(tabletOf("", rowsRun("a", "bz")), tabletOf("c", rowsRun("c", "dzz")), tabletOf("e")),
		"a row that begins with its Lo":    storeOf(tabletOf(""), tabletOf("c", rowsRun("c\x00", "cc")), tabletOf("cd")),
		"one row in all runs":              storeOf(tabletOf(""), tabletOf("c", rowsRun("d"), rowsRun("d"), rowsRun("d"))),
		"the last tablet has no end":       storeOf(tabletOf(""), tabletOf("c", rowsRun("d", strings.Repeat("\xff", impl.RowMax)))),
		"a tablet with no runs among some": storeOf(tabletOf("", rowsRun("a")), tabletOf("b"), tabletOf("c", rowsRun("d"))),
	}
}

func notValidStores() map[string]impl.Store {
	long := strings.Repeat("x", impl.RowMax+1)
	unsorted := runOf(rowPut("b"), rowPut("a"))
	return map[string]impl.Store{
		"no tablet":                               {},
		"TabletMax + 1 tablets":                   numbered(impl.TabletMax + 1),
		"many tablets":                            numbered(300),
		"a first Lo that is not empty":            storeOf(tabletOf("a")),
		"a first Lo of a byte 0":                  storeOf(tabletOf("\x00"), tabletOf("a")),
		"equal Los":                               storeOf(tabletOf(""), tabletOf("a"), tabletOf("a")),
		"two empty Los":                           storeOf(tabletOf(""), tabletOf("")),
		"falling Los":                             storeOf(tabletOf(""), tabletOf("b"), tabletOf("a")),
		"falling Los at the end":                  storeOf(tabletOf(""), tabletOf("b"), tabletOf("c"), tabletOf("")),
		"falling Los with runs":                   storeOf(tabletOf(""), tabletOf("b", rowsRun("b")), tabletOf("a", rowsRun("b"))),
		"a Lo of RowMax + 1 bytes":                storeOf(tabletOf(""), tabletOf(long)),
		"a Lo of RowMax + 1 bytes in the middle":  storeOf(tabletOf(""), tabletOf(long), tabletOf("y")),
		"RunsMax + 1 runs":                        storeOf(tabletOf("", sameRuns("a", impl.RunsMax+1)...)),
		"RunsMax + 1 runs in the last tablet":     storeOf(tabletOf(""), tabletOf("b", sameRuns("c", impl.RunsMax+1)...)),
		"an empty run":                            storeOf(tabletOf("", impl.Run{})),
		"an empty run behind another":             storeOf(tabletOf("", rowsRun("a"), impl.Run{})),
		"an empty run in the last tablet":         storeOf(tabletOf(""), tabletOf("a", impl.Run{Entries: []impl.Entry{}})),
		"a run out of order":                      storeOf(tabletOf("", unsorted)),
		"a run out of order behind another":       storeOf(tabletOf("", rowsRun("a"), unsorted), tabletOf("c")),
		"a key twice":                             storeOf(tabletOf("", runOf(rowPut("a"), rowPut("a")))),
		"two deletes of a column":                 storeOf(tabletOf("", runOf(delCol("a", "f", "q", 2), delCol("a", "f", "q", 1)))),
		"an entry that is not valid":              storeOf(tabletOf("", runOf(put("a", "", "q", 1, "v")))),
		"an empty row":                            storeOf(tabletOf("", runOf(put("", "f", "q", 1, "v")))),
		"a run of RunMax + 1 entries":             storeOf(tabletOf("", runOf(manyPuts("r", impl.RunMax+1)...))),
		"a row below its Lo":                      storeOf(tabletOf(""), tabletOf("c", rowsRun("b"))),
		"a row just below its Lo":                 storeOf(tabletOf(""), tabletOf("c\x00", rowsRun("c"))),
		"the first row of a run below its Lo":     storeOf(tabletOf(""), tabletOf("c", rowsRun("b", "c", "d"))),
		"a row at the Lo of the next":             storeOf(tabletOf("", rowsRun("c")), tabletOf("c")),
		"the last row of a run at the next Lo":    storeOf(tabletOf("", rowsRun("a", "b", "c")), tabletOf("c")),
		"a row above the Lo of the next":          storeOf(tabletOf(""), tabletOf("c", rowsRun("f")), tabletOf("e")),
		"a delete in another tablet":              storeOf(tabletOf("", runOf(delCol("d", "f", "q", 1))), tabletOf("c")),
		"a wrong row in the oldest run":           storeOf(tabletOf(""), tabletOf("c", rowsRun("c"), rowsRun("d"), rowsRun("a"))),
		"a wrong row in a run of the last tablet": storeOf(tabletOf(""), tabletOf("c"), tabletOf("e", rowsRun("e"), rowsRun("d", "f"))),
	}
}

func TestEmptyStore(t *testing.T) {
	wantStore(t, "the empty store", impl.EmptyStore(), storeOf(tabletOf("")))
	other := impl.EmptyStore()
	other.Tablets[0].Lo = "spoiled"
	wantStore(t, "another empty store", impl.EmptyStore(), storeOf(tabletOf("")))
}

func TestValidStore(t *testing.T) {
	for name, s := range validStores() {
		if !impl.ValidStore(s) {
			t.Errorf("%s: not valid", name)
		}
	}
	for name, s := range notValidStores() {
		if impl.ValidStore(s) {
			t.Errorf("%s: valid", name)
		}
	}
}

// Each kind of call has one answer for a store that is not valid.
func TestStoresNotValid(t *testing.T) {
	for name, s := range notValidStores() {
		wantStore(t, name+": written", impl.WriteStore(s, []impl.Entry{rowPut("a")}), s)
		wantStore(t, name+": written with nothing", impl.WriteStore(s, nil), s)
		for _, row := range []string{"", "a", "aa", "b", "z"} {
			wantStore(t, name+": split", impl.SplitStore(s, row), s)
			wantStore(t, name+": merged", impl.MergeStore(s, row), s)
			wantStore(t, name+": compacted", impl.CompactStore(s, row), s)
		}
		if got := impl.ScanAll(passFilter(), s, impl.Range{}); !isZeroScan(got) {
			t.Errorf("%s: scanned: %+v", name, got)
		}
		if got := impl.ScanPage(passFilter(), s, impl.Range{}, nil, 1); !samePage(got, impl.Page{Err: impl.PageStore}) {
			t.Errorf("%s: a page: %+v", name, got)
		}
	}
}

// spoiledStore changes one thing in a copy of a store; it may stay valid.
func spoiledStore(d *dice, s impl.Store) impl.Store {
	s = cloneStore(s)
	i := d.roll(len(s.Tablets))
	tablet := &s.Tablets[i]
	if d.roll(3) == 0 || len(tablet.Runs) == 0 {
		tablet.Lo = pick(d, append([]string{""}, splitRows...))
		return s
	}
	k := d.roll(len(tablet.Runs))
	entries := tablet.Runs[k].Entries
	switch d.roll(5) {
	case 0:
		entries[d.roll(len(entries))].Row = pick(d, append([]string{""}, storeRows...))
	case 1:
		entries[d.roll(len(entries))].Kind = int64(d.roll(4))
	case 2:
		tablet.Runs[k].Entries = slices.Delete(entries, 0, 1)
	case 3:
		o := d.roll(len(s.Tablets))
		s.Tablets[o].Runs = append(s.Tablets[o].Runs, runOf(slices.Clone(entries)...))
	case 4:
		tablet.Runs = slices.Delete(tablet.Runs, k, k+1)
	}
	return s
}

func TestValidStoreDrawn(t *testing.T) {
	d := &dice{state: 701}
	count := map[bool]int{}
	for range 6000 {
		s := drawStore(d, 12)
		if !impl.ValidStore(s) {
			t.Fatalf("not valid: %+v", s)
		}
		s = spoiledStore(d, s)
		want := modelValidStore(s)
		count[want]++
		if got := impl.ValidStore(s); got != want {
			t.Fatalf("valid is %v: %+v", got, s)
		}
	}
	if count[true] < 500 || count[false] < 500 {
		t.Errorf("%v", count)
	}
}

func TestWriteStoreByHand(t *testing.T) {
	old := rowsRun("a", "d")
	three := storeOf(tabletOf("", rowsRun("a")), tabletOf("c", rowsRun("d")), tabletOf("e"))
	for name, c := range map[string]struct {
		from   impl.Store
		writes []impl.Entry
		want   impl.Store
	}{
		"no writes":                  {three, nil, three},
		"no writes to an empty one":  {impl.EmptyStore(), nil, impl.EmptyStore()},
		"one write":                  {impl.EmptyStore(), []impl.Entry{rowPut("a")}, storeOf(tabletOf("", rowsRun("a")))},
		"on top of a run":            {storeOf(tabletOf("", old)), []impl.Entry{rowPut("b")}, storeOf(tabletOf("", rowsRun("b"), old))},
		"the first tablet alone":     {three, []impl.Entry{rowPut("b")}, storeOf(tabletOf("", rowsRun("b"), rowsRun("a")), tabletOf("c", rowsRun("d")), tabletOf("e"))},
		"the middle tablet alone":    {three, []impl.Entry{rowPut("c")}, storeOf(tabletOf("", rowsRun("a")), tabletOf("c", rowsRun("c"), rowsRun("d")), tabletOf("e"))},
		"the last tablet alone":      {three, []impl.Entry{rowPut("z"), rowPut("e")}, storeOf(tabletOf("", rowsRun("a")), tabletOf("c", rowsRun("d")), tabletOf("e", rowsRun("e", "z")))},
		"all tablets, mixed":         {three, []impl.Entry{rowPut("f"), rowPut("b"), rowPut("dz"), rowPut("a"), rowPut("c")}, storeOf(tabletOf("", rowsRun("a", "b"), rowsRun("a")), tabletOf("c", rowsRun("c", "dz"), rowsRun("d")), tabletOf("e", rowsRun("f")))},
		"in list order":              {impl.EmptyStore(), []impl.Entry{put("a", "f", "q", 1, "x"), put("a", "f", "q", 1, "y")}, storeOf(tabletOf("", runOf(put("a", "f", "q", 1, "y"))))},
		"in list order, with others": {three, []impl.Entry{put("a", "f", "q", 1, "x"), rowPut("d"), put("a", "f", "q", 1, "y"), rowPut("e"), del("a", "f", "q", 1)}, storeOf(tabletOf("", runOf(del("a", "f", "q", 1)), rowsRun("a")), tabletOf("c", rowsRun("d"), rowsRun("d")), tabletOf("e", rowsRun("e")))},
		"a put and a delete":         {impl.EmptyStore(), []impl.Entry{put("a", "f", "q", 1, "x"), delCol("a", "f", "q", 5)}, storeOf(tabletOf("", runOf(delCol("a", "f", "q", 5))))},
		"a write that is not valid":  {three, []impl.Entry{rowPut("a"), put("d", "", "q", 1, "")}, three},
		"an empty row":               {three, []impl.Entry{put("", "f", "q", 1, ""), rowPut("a")}, three},
		"a del with a value":         {three, []impl.Entry{rowPut("a"), {Row: "d", Fam: "f", Kind: impl.KindDel, Val: "v"}, rowPut("e")}, three},
		"a kind of none":             {three, []impl.Entry{{Row: "d", Fam: "f", Kind: 3}}, three},
	} {
		wantStore(t, name, impl.WriteStore(c.from, c.writes), c.want)
		wantStore(t, name+" by the model", modelWrite(c.from, c.writes), c.want)
	}
}

func TestWriteStoreLimits(t *testing.T) {
	full := sameRuns("b", impl.RunsMax)
	last := sameRuns("b", impl.RunsMax-1)
	s := storeOf(tabletOf(""), tabletOf("b", full...), tabletOf("c"))
	wantStore(t, "a write for a full tablet", impl.WriteStore(s, []impl.Entry{rowPut("b")}), s)
	wantStore(t, "writes for others and a full tablet", impl.WriteStore(s, []impl.Entry{rowPut("a"), rowPut("d"), rowPut("bz")}), s)
	wantStore(t, "no write for a full tablet", impl.WriteStore(s, []impl.Entry{rowPut("d"), rowPut("a")}), storeOf(tabletOf("", rowsRun("a")), tabletOf("b", full...), tabletOf("c", rowsRun("d"))))
	wantStore(t, "the last run that fits", impl.WriteStore(storeOf(tabletOf("", last...)), []impl.Entry{rowPut("a")}), storeOf(tabletOf("", slices.Insert(slices.Clone(last), 0, rowsRun("a"))...)))

	most := manyPuts("r", impl.RunMax)
	wantStore(t, "RunMax writes", impl.WriteStore(impl.EmptyStore(), most), storeOf(tabletOf("", runOf(most...))))
	wantStore(t, "RunMax + 1 writes", impl.WriteStore(impl.EmptyStore(), manyPuts("r", impl.RunMax+1)), impl.EmptyStore())
	two := storeOf(tabletOf(""), tabletOf("m"))
	wantStore(t, "RunMax + 1 writes in two tablets", impl.WriteStore(two, append(manyPuts("r", impl.RunMax), rowPut("a"))), two)
	wantStore(t, "RunMax + 1 writes of one key", impl.WriteStore(two, slices.Repeat([]impl.Entry{rowPut("a")}, impl.RunMax+1)), two)
	wantStore(t, "RunMax writes of one key", impl.WriteStore(two, slices.Repeat([]impl.Entry{rowPut("a")}, impl.RunMax)), storeOf(tabletOf("", rowsRun("a")), tabletOf("m")))
}

func TestSplitStoreByHand(t *testing.T) {
	long := strings.Repeat("x", impl.RowMax)
	one := storeOf(tabletOf("", rowsRun("a", "c", "e"), rowsRun("a", "b"), rowsRun("d"), rowsRun("b", "c", "d")))
	two := storeOf(tabletOf("", rowsRun("a")), tabletOf("c", rowsRun("d", "e"), rowsRun("c")), tabletOf("g"))
	for name, c := range map[string]struct {
		from impl.Store
		row  string
		want impl.Store
	}{
		"an empty store":               {impl.EmptyStore(), "m", storeOf(tabletOf(""), tabletOf("m"))},
		"runs on one side and both":    {one, "c", storeOf(tabletOf("", rowsRun("a"), rowsRun("a", "b"), rowsRun("b")), tabletOf("c", rowsRun("c", "e"), rowsRun("d"), rowsRun("c", "d")))},
		"between two rows":             {one, "bz", storeOf(tabletOf("", rowsRun("a"), rowsRun("a", "b"), rowsRun("b")), tabletOf("bz", rowsRun("c", "e"), rowsRun("d"), rowsRun("c", "d")))},
		"just behind a row":            {one, "c\x00", storeOf(tabletOf("", rowsRun("a", "c"), rowsRun("a", "b"), rowsRun("b", "c")), tabletOf("c\x00", rowsRun("e"), rowsRun("d"), rowsRun("d")))},
		"below all rows":               {one, "A", storeOf(tabletOf(""), tabletOf("A", one.Tablets[0].Runs...))},
		"above all rows":               {one, "f", storeOf(tabletOf("", one.Tablets[0].Runs...), tabletOf("f"))},
		"the first tablet":             {two, "b", storeOf(tabletOf("", rowsRun("a")), tabletOf("b"), two.Tablets[1], two.Tablets[2])},
		"a middle tablet":              {two, "e", storeOf(two.Tablets[0], tabletOf("c", rowsRun("d"), rowsRun("c")), tabletOf("e", rowsRun("e")), two.Tablets[2])},
		"the last tablet":              {two, "h", storeOf(two.Tablets[0], two.Tablets[1], two.Tablets[2], tabletOf("h"))},
		"a row of RowMax bytes":        {two, long, storeOf(two.Tablets[0], two.Tablets[1], two.Tablets[2], tabletOf(long))},
		"a row of RowMax + 1 bytes":    {two, long + "x", two},
		"a row of many bytes":          {two, strings.Repeat("d", 1000), two},
		"the empty row":                {two, "", two},
		"the empty row of one tablet":  {one, "", one},
		"the Lo of a tablet":           {two, "c", two},
		"the Lo of the last tablet":    {two, "g", two},
		"a delete of a column, behind": {storeOf(tabletOf("", runOf(put("a", "f", "q", 1, "x"), delCol("b", "f", "q", 3), put("b", "f", "q", 2, "y")))), "b", storeOf(tabletOf("", runOf(put("a", "f", "q", 1, "x"))), tabletOf("b", runOf(delCol("b", "f", "q", 3), put("b", "f", "q", 2, "y"))))},
		"several columns of a row":     {storeOf(tabletOf("", runOf(put("b", "e", "", 1, ""), put("b", "f", "", 1, ""), delCol("b", "f", "q", 3)))), "b", storeOf(tabletOf(""), tabletOf("b", runOf(put("b", "e", "", 1, ""), put("b", "f", "", 1, ""), delCol("b", "f", "q", 3))))},
	} {
		wantStore(t, name, impl.SplitStore(c.from, c.row), c.want)
		wantStore(t, name+" by the model", modelSplit(c.from, c.row), c.want)
	}
	for n, grows := range map[int]int{impl.TabletMax: 0, impl.TabletMax - 1: 1, impl.TabletMax - 2: 1} {
		if got := len(impl.SplitStore(numbered(n), "050x").Tablets); got != n+grows {
			t.Errorf("%d tablets became %d", n, got)
		}
	}
	wantStore(t, "TabletMax tablets", impl.SplitStore(numbered(impl.TabletMax), "050x"), numbered(impl.TabletMax))
}

func TestMergeStoreByHand(t *testing.T) {
	a, b, c := tabletOf("", rowsRun("a"), rowsRun("a", "b")), tabletOf("c", rowsRun("d", "e"), rowsRun("c")), tabletOf("g", rowsRun("g"))
	three := storeOf(a, b, c)
	first := storeOf(tabletOf("", rowsRun("a"), rowsRun("a", "b"), rowsRun("d", "e"), rowsRun("c")), c)
	second := storeOf(a, tabletOf("c", rowsRun("d", "e"), rowsRun("c"), rowsRun("g")))
	for row, want := range map[string]impl.Store{
		"": first, "a": first, "b": first, "bzz": first, "b\xff": first, "A": first, "b" + strings.Repeat("z", 200): first,
		"c": second, "c\x00": second, "d": second, "f": second, "fzz": second, "d" + strings.Repeat("z", 200): second,
		"g": three, "g\x00": three, "z": three, "\xff": three, strings.Repeat("z", 1000): three,
	} {
		wantStore(t, row, impl.MergeStore(three, row), want)
		wantStore(t, row+" by the model", modelUnite(three, row), want)
	}
	wantStore(t, "one tablet", impl.MergeStore(storeOf(a), "a"), storeOf(a))
	wantStore(t, "no runs", impl.MergeStore(numbered(2), ""), impl.EmptyStore())
	wantStore(t, "runs in the first alone", impl.MergeStore(storeOf(a, tabletOf("c")), ""), storeOf(a))
	wantStore(t, "runs in the second alone", impl.MergeStore(storeOf(tabletOf(""), b), ""), storeOf(tabletOf("", b.Runs...)))
}

func TestMergeStoreLimits(t *testing.T) {
	for left := range impl.RunsMax + 1 {
		for _, right := range []int{impl.RunsMax - left, min(impl.RunsMax, impl.RunsMax-left+1), impl.RunsMax} {
			s := storeOf(tabletOf("", sameRuns("a", left)...), tabletOf("b", sameRuns("b", right)...), tabletOf("c", sameRuns("d", impl.RunsMax)...))
			want := s
			if left+right <= impl.RunsMax {
				want = storeOf(tabletOf("", append(sameRuns("a", left), sameRuns("b", right)...)...), s.Tablets[2])
			}
			wantStore(t, fmt.Sprint(left, " and ", right, " runs"), impl.MergeStore(s, "a"), want)
		}
	}
}

func TestCompactStoreByHand(t *testing.T) {
	many := tabletOf("c", runOf(put("c", "f", "q", 5, "new"), del("d", "f", "q", 1)), runOf(put("c", "f", "q", 5, "old"), put("d", "f", "q", 1, "gone"), put("e", "f", "q", 1, "kept")))
	one := tabletOf("c", runOf(put("c", "f", "q", 5, "new"), put("e", "f", "q", 1, "kept")))
	left, right := tabletOf("", rowsRun("a"), rowsRun("a")), tabletOf("g", rowsRun("g"), rowsRun("h"))
	s := storeOf(left, many, right)
	for name, c := range map[string]struct {
		from impl.Store
		row  string
		want impl.Store
	}{
		"no runs":              {impl.EmptyStore(), "a", impl.EmptyStore()},
		"no runs among others": {storeOf(left, tabletOf("c"), right), "c", storeOf(left, tabletOf("c"), right)},
		"one run":              {storeOf(tabletOf("", rowsRun("a", "b"))), "", storeOf(tabletOf("", rowsRun("a", "b")))},
		"one run with deletes": {storeOf(tabletOf("", runOf(delCol("a", "f", "q", 5), put("a", "f", "q", 5, "x"), del("b", "f", "q", 1)))), "x", storeOf(tabletOf("", runOf(put("a", "f", "q", 5, "x"))))},
		"one run of deletes":   {storeOf(tabletOf("", runOf(del("b", "f", "q", 1)))), "", impl.EmptyStore()},
		"nothing visible":      {storeOf(left, tabletOf("c", runOf(delCol("d", "f", "q", 9)), runOf(put("d", "f", "q", 9, "x"))), right), "d", storeOf(left, tabletOf("c"), right)},
		"the first of several": {s, "", storeOf(tabletOf("", rowsRun("a")), many, right)},
		"a middle one":         {s, "d", storeOf(left, one, right)},
		"a middle one by Lo":   {s, "c", storeOf(left, one, right)},
		"the last of several":  {s, "zz", storeOf(left, many, tabletOf("g", rowsRun("g", "h")))},
		"a long row":           {s, strings.Repeat("g", 500), storeOf(left, many, tabletOf("g", rowsRun("g", "h")))},
		"a long row before it": {s, strings.Repeat("f", 500), storeOf(left, one, right)},
	} {
		wantStore(t, name, impl.CompactStore(c.from, c.row), c.want)
		wantStore(t, name+" by the model", modelCompact(c.from, c.row), c.want)
	}
}

func TestCompactStoreLimits(t *testing.T) {
	full := manyPuts("r", impl.RunMax)
	half := len(full) / 2
	other := tabletOf("s", rowsRun("s"), rowsRun("t"))
	over := storeOf(tabletOf("", rowsRun("a"), runOf(full...)), other)
	halves := storeOf(tabletOf("", runOf(full[half:]...), runOf(full[:half]...)), other)
	twice := storeOf(tabletOf("", runOf(full...), runOf(full...)), other)
	hidden := storeOf(tabletOf("", runOf(del("a", "f", "q", 1)), rowsRun("a"), runOf(full...)), other)
	done := storeOf(tabletOf("", runOf(full...)), other)
	wantStore(t, "RunMax cells in two runs", impl.CompactStore(halves, "r"), done)
	wantStore(t, "RunMax cells written twice", impl.CompactStore(twice, "r"), done)
	wantStore(t, "RunMax cells and a hidden one", impl.CompactStore(hidden, "r"), done)
	wantStore(t, "RunMax + 1 cells", impl.CompactStore(over, "r"), over)
	wantStore(t, "RunMax + 1 cells in the tablet before", impl.CompactStore(over, "s"), storeOf(over.Tablets[0], tabletOf("s", rowsRun("s", "t"))))
}

// shown is what all tablets show in rg.
func shown(s impl.Store, rg impl.Range) []impl.Cell {
	var cells []impl.Cell
	for _, tablet := range s.Tablets {
		cells = append(cells, impl.MergeRuns(tablet.Runs, rg)...)
	}
	return cells
}

// Promise 14, and that the answers are those of the model.
func TestShapesDrawn(t *testing.T) {
	d := &dice{state: 702}
	changes := map[string]int{}
	for range 1500 {
		s := drawStore(d, 14)
		row := pick(d, append([]string{"", strings.Repeat("b", 65)}, splitRows...))
		writes := drawWrites(d, d.roll(6))
		for name, c := range map[string][2]impl.Store{
			"split":   {impl.SplitStore(s, row), modelSplit(s, row)},
			"merge":   {impl.MergeStore(s, row), modelUnite(s, row)},
			"compact": {impl.CompactStore(s, row), modelCompact(s, row)},
			"write":   {impl.WriteStore(s, writes), modelWrite(s, writes)},
		} {
			wantStore(t, name, c[0], c[1])
			if !impl.ValidStore(c[0]) {
				t.Fatalf("%s at %q makes a store that is not valid of %+v", name, row, s)
			}
			if !sameStore(c[0], s) {
				changes[name]++
			}
			for _, rg := range []impl.Range{{}, drawRange(d), drawRange(d)} {
				if name != "write" {
					wantCells(t, name, shown(c[0], rg), shown(s, rg))
				}
			}
		}
		if t.Failed() {
			t.FailNow()
		}
	}
	for _, name := range []string{"split", "merge", "compact", "write"} {
		if changes[name] < 200 {
			t.Errorf("%v", changes)
		}
	}
}

// What is written in parts, with changes of shape between, shows what all the writes in order do.
func TestStoreShowsAllWrites(t *testing.T) {
	d := &dice{state: 703}
	for range 400 {
		s := impl.EmptyStore()
		var writes []impl.Entry
		for range d.roll(20) {
			part := drawWrites(d, d.roll(6))
			s = impl.WriteStore(s, part)
			writes = append(writes, part...)
			row := pick(d, splitRows)
			s = []func(impl.Store, string) impl.Store{impl.SplitStore, impl.MergeStore, impl.CompactStore}[d.roll(3)](s, row)
		}
		rg := drawRange(d)
		wantCells(t, "all", shown(s, impl.Range{}), modelReplay(writes))
		wantCells(t, "a range", shown(s, rg), cellsIn(modelReplay(writes), rg))
		if t.Failed() {
			t.FailNow()
		}
	}
}

// roomyStore lays a store into memory with room behind each list, so that an append into an argument is seen.
func roomyStore(s impl.Store) impl.Store {
	guard := runOf(put("guard", "g", "g", 1, "g"))
	wide := impl.Store{}
	for _, tablet := range s.Tablets {
		var runs []impl.Run
		for _, r := range tablet.Runs {
			entries, _ := guarded(r.Entries)
			runs = append(runs, runOf(entries...))
		}
		runs = append(runs, guard, guard)[:len(tablet.Runs)]
		wide.Tablets = append(wide.Tablets, tabletOf(tablet.Lo, runs...))
	}
	wide.Tablets = append(wide.Tablets, tabletOf("guard"), tabletOf("guard"))[:len(s.Tablets)]
	return wide
}

// wholeStore has the room behind the lists too.
func wholeStore(s impl.Store) impl.Store {
	all := impl.Store{}
	for _, tablet := range s.Tablets[:cap(s.Tablets)] {
		var runs []impl.Run
		for _, r := range tablet.Runs[:cap(tablet.Runs)] {
			runs = append(runs, runOf(r.Entries[:cap(r.Entries)]...))
		}
		all.Tablets = append(all.Tablets, tabletOf(tablet.Lo, runs...))
	}
	return all
}

func spoilTablet(tablet impl.Tablet) {
	for _, r := range tablet.Runs {
		spoilEntries(r.Entries)
	}
	runs := tablet.Runs[:cap(tablet.Runs)]
	for k := range runs {
		runs[k] = runOf(put("spoiled", "s", "s", 9, "s"))
	}
}

func spoilStore(s impl.Store) {
	for _, tablet := range s.Tablets {
		spoilTablet(tablet)
	}
	tablets := s.Tablets[:cap(s.Tablets)]
	for i := range tablets {
		tablets[i] = tabletOf("spoiled")
	}
}

func spoilPage(p impl.Page) {
	spoilCells(p.Cells)
	token := p.Token[:cap(p.Token)]
	for i := range token {
		token[i] = '!'
	}
}

type storeChange func(s impl.Store, writes []impl.Entry) impl.Store

// storeChanges has calls that answer a store, some of which change nothing in it.
func storeChanges(row string) map[string]storeChange {
	return map[string]storeChange{
		"write":          func(s impl.Store, writes []impl.Entry) impl.Store { return impl.WriteStore(s, writes) },
		"write nothing":  func(s impl.Store, writes []impl.Entry) impl.Store { return impl.WriteStore(s, nil) },
		"write a fault":  func(s impl.Store, writes []impl.Entry) impl.Store { return impl.WriteStore(s, []impl.Entry{{}}) },
		"split":          func(s impl.Store, writes []impl.Entry) impl.Store { return impl.SplitStore(s, row) },
		"split at a Lo":  func(s impl.Store, writes []impl.Entry) impl.Store { return impl.SplitStore(s, "") },
		"split too long": func(s impl.Store, writes []impl.Entry) impl.Store { return impl.SplitStore(s, strings.Repeat("b", 65)) },
		"merge":          func(s impl.Store, writes []impl.Entry) impl.Store { return impl.MergeStore(s, row) },
		"merge the last": func(s impl.Store, writes []impl.Entry) impl.Store { return impl.MergeStore(s, "\xff") },
		"compact":        func(s impl.Store, writes []impl.Entry) impl.Store { return impl.CompactStore(s, row) },
	}
}

// wantApart spoils the lists of an answer one by one: the others stay as they are.
func wantApart(t *testing.T, name string, answer func() impl.Store) {
	t.Helper()
	want := answer()
	for i := range want.Tablets {
		got := answer()
		spoilTablet(got.Tablets[i])
		got.Tablets[i] = want.Tablets[i]
		wantStore(t, name+": a tablet shares memory with another", got, want)
		for k := range want.Tablets[i].Runs {
			got := answer()
			spoilEntries(got.Tablets[i].Runs[k].Entries)
			got.Tablets[i].Runs[k] = want.Tablets[i].Runs[k]
			wantStore(t, name+": a run shares memory with another", got, want)
		}
	}
}

func wantOwnMemory(t *testing.T, name string, plain impl.Store, some []impl.Entry, change storeChange) {
	t.Helper()
	s := roomyStore(plain)
	writes, whole := guarded(some)
	storeBefore, wholeBefore := cloneStore(wholeStore(s)), slices.Clone(whole)
	impl.ValidStore(s)
	answer := change(s, writes)
	if !sameStore(wholeStore(s), storeBefore) || !slices.Equal(whole, wholeBefore) {
		t.Fatalf("%s: an argument was changed", name)
	}
	wantApart(t, name, func() impl.Store { return change(s, writes) })
	want := cloneStore(answer)
	spoilStore(s)
	spoilEntries(whole)
	wantStore(t, name+": the arguments are spoiled, and with them the answer", answer, want)
	if t.Failed() {
		t.FailNow()
	}
}

func TestStoreMemory(t *testing.T) {
	d := &dice{state: 704}
	for range 200 {
		s, writes := drawStore(d, 14), drawWrites(d, d.roll(8))
		for name, change := range storeChanges(pick(d, splitRows)) {
			wantOwnMemory(t, name, s, writes, change)
		}
	}
	for kind, s := range map[string]impl.Store{
		"full tablets":      storeOf(tabletOf("", sameRuns("a", impl.RunsMax)...), tabletOf("b", sameRuns("b", impl.RunsMax)...), tabletOf("c")),
		"TabletMax tablets": numbered(impl.TabletMax),
		"an overfull one":   overfullStore(),
		"not valid":         storeOf(tabletOf("", rowsRun("a"), impl.Run{}, rowsRun("c", "b")), tabletOf("b", rowsRun("a"))),
		"no first tablet":   storeOf(tabletOf("b", rowsRun("b"))),
	} {
		for name, change := range storeChanges("a") {
			wantOwnMemory(t, kind+": "+name, s, []impl.Entry{rowPut("a"), rowPut("c")}, change)
		}
	}
}
