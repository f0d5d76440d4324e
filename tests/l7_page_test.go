package tests

import (
	"fmt"
	"math"
	"slices"
	"strings"
	"testing"

	"loop.example/s01854/impl"
)

// threeTablets has the rows a, b (of three cells), bz in the first tablet, none in the second, and c, d, e behind.
func threeTablets() impl.Store {
	b := []impl.Entry{put("b", "f", "q", 3, "b3"), put("b", "f", "q", 2, "b2"), put("b", "f", "r", 1, "b1")}
	return storeOf(
		tabletOf("", runOf(rowPut("a"), b[0], b[2]), runOf(put("a", "f", "q", 1, "old"), b[1], rowPut("bz"))),
		tabletOf("bzz"),
		tabletOf("c", rowsRun("d"), rowsRun("c", "e")),
	)
}

func overfullStore() impl.Store {
	return storeOf(tabletOf("", rowsRun("z"), runOf(manyPuts("r", impl.RunMax)...)))
}

func TestScanAllByHand(t *testing.T) {
	s := threeTablets()
	m := newVMModel()
	for name, c := range map[string]struct {
		rg   impl.Range
		vals string
	}{
		"all":                          {impl.Range{}, "a b3 b2 b1 bz c d e"},
		"a Hi that does not count":     {impl.Range{Hi: "b"}, "a b3 b2 b1 bz c d e"},
		"the first tablet":             {impl.Range{HasHi: true, Hi: "bzz"}, "a b3 b2 b1 bz"},
		"a part of the first tablet":   {impl.Range{Lo: "b", HasHi: true, Hi: "b\x00"}, "b3 b2 b1"},
		"from the middle tablet":       {impl.Range{Lo: "bzz"}, "c d e"},
		"the middle tablet":            {impl.Range{Lo: "bzz", HasHi: true, Hi: "c"}, ""},
		"over two borders":             {impl.Range{Lo: "bz", HasHi: true, Hi: "d"}, "bz c"},
		"behind all":                   {impl.Range{Lo: "f"}, ""},
		"before all":                   {impl.Range{HasHi: true, Hi: "a"}, ""},
		"no row":                       {impl.Range{Lo: "d", HasHi: true, Hi: "b"}, ""},
		"no row at all":                {impl.Range{HasHi: true}, ""},
		"a Lo that is no row's length": {impl.Range{Lo: strings.Repeat("b", 300)}, "bz c d e"},
	} {
		got := impl.ScanAll(passFilter(), s, c.rg)
		if !got.Ok || valsOf(got.Cells) != c.vals || got.Ops != int64(len(got.Cells)) {
			t.Errorf("%s: %+v", name, got)
		}
	}
	for text, want := range map[string]impl.ScanRes{
		// A jump ends with its tablet.
		"block":           {Ok: true, Ops: 2},
		`row "d"`:         {Ok: true, Ops: 4, Cells: cellsOf(rowPut("d"))},
		`row "c"`:         {Ok: true, Ops: 3, Cells: cellsOf(rowPut("c"))},
		"cells 1 > strip": {Ok: true, Ops: 7, Cells: cellsOf(put("a", "f", "q", 1, ""), put("b", "f", "q", 3, ""), put("bz", "f", "q", 1, ""), put("c", "f", "q", 1, ""), put("d", "f", "q", 1, ""), put("e", "f", "q", 1, ""))},
		// The normal form is what runs: without it both would take more moves.
		"block > pass":                        {Ok: true, Ops: 2},
		"if(pass, block, pass)":               {Ok: true, Ops: 2},
		`if(block, pass, row "d") > pass`:     {Ok: true, Ops: 4, Cells: cellsOf(rowPut("d"))},
		`if(row "b", ts 2.., row "d") > pass`: {Ok: true, Ops: 8, Cells: cellsOf(put("b", "f", "q", 3, "b3"), put("b", "f", "q", 2, "b2"), rowPut("d"))},
	} {
		got, model := impl.ScanAll(parsed(t, text), s, impl.Range{}), modelScanAll(m, parsed(t, text), s, impl.Range{})
		if !sameScan(got, want) || !sameScan(model, want) {
			t.Errorf("%s: %+v, by the model %+v", text, got, model)
		}
	}
}

func valsOf(cells []impl.Cell) string {
	var vals []string
	for _, c := range cells {
		vals = append(vals, c.Val)
	}
	return strings.Join(vals, " ")
}

func TestScanAllRefuses(t *testing.T) {
	for name, f := range map[string]impl.Filter{"no nodes": {}, "two leaves": {Nodes: passes(2)}, "a kind of none": {Nodes: []impl.Node{{Kind: 17}}}, "a pattern with a fault": patternLeaf(impl.NodeRow, "(").filter(), "201 nodes": {Nodes: leftChain(101).postfix()}} {
		if got := impl.ScanAll(f, threeTablets(), impl.Range{}); modelValid(f) || !isZeroScan(got) {
			t.Errorf("%s: %+v", name, got)
		}
		if got := impl.ScanPage(f, threeTablets(), impl.Range{}, nil, 1); !samePage(got, impl.Page{Err: impl.PageFilter}) {
			t.Errorf("%s: %+v", name, got)
		}
	}
}

func TestOverfullTablets(t *testing.T) {
	full := manyPuts("r", impl.RunMax)
	hides := storeOf(tabletOf("", runOf(del("z", "f", "q", 1)), rowsRun("z"), runOf(full...)))
	twice := storeOf(tabletOf("", runOf(full...), runOf(full...)))
	two := storeOf(tabletOf("", runOf(full...)), tabletOf("s", runOf(manyPuts("t", impl.RunMax)...)))
	second := storeOf(tabletOf("", rowsRun("a")), tabletOf("b", overfullStore().Tablets[0].Runs...))
	for name, c := range map[string]struct {
		s     impl.Store
		rg    impl.Range
		cells int
	}{
		"RunMax + 1 cells":                         {overfullStore(), impl.Range{}, -1},
		"RunMax + 1 cells in the range":            {overfullStore(), impl.Range{Lo: "r", HasHi: true, Hi: "z\x00"}, -1},
		"one outside, behind":                      {overfullStore(), impl.Range{HasHi: true, Hi: "z"}, impl.RunMax},
		"one outside, before":                      {overfullStore(), impl.Range{Lo: "r\x00\x00\x01"}, impl.RunMax},
		"all but one outside":                      {overfullStore(), impl.Range{Lo: "z"}, 1},
		"all outside":                              {overfullStore(), impl.Range{Lo: "zz"}, 0},
		"RunMax + 1 writes of RunMax cells":        {hides, impl.Range{}, impl.RunMax},
		"twice RunMax writes of RunMax cells":      {twice, impl.Range{}, impl.RunMax},
		"twice RunMax cells in two tablets":        {two, impl.Range{}, 2 * impl.RunMax},
		"the last tablet of two":                   {second, impl.Range{}, -1},
		"the last tablet of two, in the range":     {second, impl.Range{Lo: "b"}, -1},
		"the last tablet of two, not in the range": {second, impl.Range{HasHi: true, Hi: "b"}, 1},
	} {
		all, page := impl.ScanAll(passFilter(), c.s, c.rg), impl.ScanPage(passFilter(), c.s, c.rg, nil, impl.BudgetMax)
		if c.cells < 0 {
			if !isZeroScan(all) || !samePage(page, impl.Page{Err: impl.PageStore}) {
				t.Errorf("%s: %d cells, Err %d", name, len(all.Cells), page.Err)
			}
			continue
		}
		if !all.Ok || len(all.Cells) != c.cells || all.Ops != int64(c.cells) || page.Err != impl.PageOk {
			t.Errorf("%s: ok %v, %d cells, %d moves, Err %d", name, all.Ok, len(all.Cells), all.Ops, page.Err)
		}
	}
	// The range decides, not where the page begins.
	if got := impl.ScanPage(passFilter(), overfullStore(), impl.Range{}, modelPageToken("z"), 1); !samePage(got, impl.Page{Err: impl.PageStore}) {
		t.Errorf("a page of few cells of a range of too many: %+v", got)
	}
}

func TestScanDrawn(t *testing.T) {
	d := &dice{state: 711}
	m := newVMModel()
	moves := 0
	for range 3000 {
		s, tr, rg := drawStore(d, 24), drawTree(d, 1+d.roll(5), "ab"), drawRange(d)
		seekingLeaves(d, tr)
		want := modelScanAll(m, tr.filter(), s, rg)
		if got := impl.ScanAll(tr.filter(), s, rg); !sameScan(got, want) {
			t.Fatalf("%s over %+v in %+v:\n got %+v\nwant %+v", tr.print(), s, rg, got, want)
		}
		if want.Ok && want.Ops < int64(len(shown(s, rg))) {
			moves++
		}
	}
	if moves < 300 {
		t.Errorf("%d scans had jumps", moves)
	}
}

func TestPageErrors(t *testing.T) {
	bad := modelPageToken("b")
	bad[1] = 'c'
	stores := map[string]impl.Store{"right": threeTablets(), "not valid": storeOf(tabletOf("a")), "overfull": overfullStore()}
	for name, s := range stores {
		for _, badFilter := range []bool{false, true} {
			for _, budget := range []int64{1, 0, impl.BudgetMax, impl.BudgetMax + 1, -1, math.MinInt64, math.MaxInt64, 1 << 32} {
				for _, badToken := range []bool{false, true} {
					f, token := passFilter(), modelPageToken("b")
					want := int64(impl.PageOk)
					if badToken {
						token, want = bad, impl.PageToken
					}
					if budget < 1 || budget > 10000 {
						want = impl.PageBudget
					}
					if name != "right" {
						want = impl.PageStore
					}
					if badFilter {
						f, want = impl.Filter{}, impl.PageFilter
					}
					got := impl.ScanPage(f, s, impl.Range{}, token, budget)
					if got.Err != want || want != impl.PageOk && !samePage(got, impl.Page{Err: want}) {
						t.Errorf("filter %v, store %s, budget %d, token %v: %+v", badFilter, name, budget, badToken, got)
					}
					// The errors stand before the end of the range.
					got = impl.ScanPage(f, s, impl.Range{Lo: "x", HasHi: true, Hi: "b"}, token, budget)
					if name != "overfull" && got.Err != want || want == impl.PageOk && !samePage(got, impl.Page{Done: true}) {
						t.Errorf("filter %v, store %s, budget %d, token %v, no range: %+v", badFilter, name, budget, badToken, got)
					}
				}
			}
		}
	}
}

func wantToken(t *testing.T, name string, token []byte, ok bool) {
	t.Helper()
	got := impl.ScanPage(passFilter(), threeTablets(), impl.Range{}, token, 1)
	if ok && got.Err != impl.PageOk || !ok && !samePage(got, impl.Page{Err: impl.PageToken}) {
		t.Errorf("%s: %+v", name, got)
	}
	if want := modelPage(newVMModel(), passFilter(), threeTablets(), impl.Range{}, token, 1); !samePage(got, want) {
		t.Errorf("%s: %+v, want %+v", name, got, want)
	}
}

func TestTokens(t *testing.T) {
	wantToken(t, "nil", nil, true)
	wantToken(t, "empty", []byte{}, true)
	for n, ok := range map[int]bool{0: true, 1: true, 2: true, impl.RowMax - 1: true, impl.RowMax: true, impl.RowMax + 1: true, impl.RowMax + 2: false, 100: false, 5000: false} {
		for _, b := range []string{"b", "\x00", "\xff"} {
			wantToken(t, fmt.Sprintf("%d bytes %q", n, b), modelPageToken(strings.Repeat(b, n)), ok)
		}
	}
	whole := modelPageToken("b\x00")
	for i := range whole {
		for b := range 256 {
			other := slices.Clone(whole)
			other[i] = byte(b)
			wantToken(t, fmt.Sprintf("byte %d is %d", i, b), other, byte(b) == whole[i])
		}
		wantToken(t, fmt.Sprint("cut at ", i), whole[:i], i == 0)
		wantToken(t, fmt.Sprint("from ", i), whole[i:], i == 0)
	}
	for _, tail := range []string{"\x00", "T", string(whole)} {
		wantToken(t, "a tail", append(slices.Clone(whole), tail...), false)
	}
	for name, text := range map[string]string{"another head": "U", "a small head": "t", "no head": "", "two heads": "TT"} {
		body := text + "b"
		wantToken(t, name, []byte(body+modelFixed(modelCrc(body))), text == "TT")
	}
	wantToken(t, "the sum of the row alone", []byte("Tb"+modelFixed(modelCrc("b"))), false)
	wantToken(t, "the sum the other way round", reversedSum("Tb"), false)
}

func reversedSum(body string) []byte {
	sum := []byte(modelFixed(modelCrc(body)))
	slices.Reverse(sum)
	return append([]byte(body), sum...)
}

func wantPage(t *testing.T, name string, got impl.Page, vals string, token []byte) {
	t.Helper()
	if got.Err != impl.PageOk || valsOf(got.Cells) != vals || got.Done != (token == nil) || !slices.Equal(got.Token, token) {
		t.Errorf("%s: %q, token %q, done %v, Err %d", name, valsOf(got.Cells), got.Token, got.Done, got.Err)
	}
}

func TestPageByHand(t *testing.T) {
	s := threeTablets()
	behind := func(row string) []byte { return modelPageToken(row + "\x00") }
	to := func(hi string) impl.Range { return impl.Range{HasHi: true, Hi: hi} }
	for name, c := range map[string]struct {
		rg     impl.Range
		token  []byte
		budget int64
		vals   string
		next   []byte
	}{
		"one cell":                                 {impl.Range{}, nil, 1, "a", behind("a")},
		"a row that goes over the budget":          {impl.Range{}, nil, 2, "a b3 b2 b1", behind("b")},
		"a row that goes over by one":              {impl.Range{}, nil, 3, "a b3 b2 b1", behind("b")},
		"a row that meets the budget":              {impl.Range{}, nil, 4, "a b3 b2 b1", behind("b")},
		"the last row that meets it":               {impl.Range{}, nil, 5, "a b3 b2 b1 bz", behind("bz")},
		"one cell too few":                         {impl.Range{}, nil, 6, "a b3 b2 b1 bz", modelPageToken("bzz")},
		"the most":                                 {impl.Range{}, nil, impl.BudgetMax, "a b3 b2 b1 bz", modelPageToken("bzz")},
		"a row alone over the budget":              {impl.Range{Lo: "b"}, nil, 1, "b3 b2 b1", behind("b")},
		"a tablet with nothing":                    {impl.Range{}, modelPageToken("bzz"), 1, "", modelPageToken("c")},
		"behind the last row of a tablet":          {impl.Range{}, behind("bz"), 1, "", modelPageToken("bzz")},
		"the last tablet with budget + 1":          {impl.Range{}, modelPageToken("c"), 2, "c d", behind("d")},
		"the last tablet with budget":              {impl.Range{}, modelPageToken("c"), 3, "c d e", behind("e")},
		"the last tablet with budget - 1":          {impl.Range{}, modelPageToken("c"), 4, "c d e", nil},
		"behind all":                               {impl.Range{}, behind("e"), 1, "", nil},
		"a token of the empty row":                 {impl.Range{}, modelPageToken(""), 9, "a b3 b2 b1 bz", modelPageToken("bzz")},
		"a token's row below Lo":                   {impl.Range{Lo: "b"}, modelPageToken("a"), 9, "b3 b2 b1 bz", modelPageToken("bzz")},
		"a token's row in a tablet below Lo":       {impl.Range{Lo: "d"}, modelPageToken("a"), 9, "d e", nil},
		"a token's row at Lo":                      {impl.Range{Lo: "b"}, modelPageToken("b"), 9, "b3 b2 b1 bz", modelPageToken("bzz")},
		"a token's row above Lo":                   {impl.Range{Lo: "b"}, behind("b"), 9, "bz", modelPageToken("bzz")},
		"a token's row between rows":               {impl.Range{Lo: "a"}, modelPageToken("bb"), 9, "bz", modelPageToken("bzz")},
		"a token of RowMax + 1 bytes":              {impl.Range{}, modelPageToken(strings.Repeat("b", 65)), 9, "bz", modelPageToken("bzz")},
		"a Lo of many bytes":                       {impl.Range{Lo: strings.Repeat("b", 300)}, nil, 9, "bz", modelPageToken("bzz")},
		"a Lo in the last tablet":                  {impl.Range{Lo: "cz"}, nil, 9, "d e", nil},
		"Lo at Hi":                                 {impl.Range{Lo: "b", HasHi: true, Hi: "b"}, nil, 1, "", nil},
		"Lo past Hi":                               {impl.Range{Lo: "c", HasHi: true, Hi: "b"}, nil, 1, "", nil},
		"an empty Hi":                              {to(""), nil, 1, "", nil},
		"a token's row at Hi":                      {to("b"), modelPageToken("b"), 1, "", nil},
		"a token's row past Hi":                    {to("b"), behind("b"), 1, "", nil},
		"a token's row past Hi in another tablet":  {to("b"), modelPageToken("d"), 1, "", nil},
		"a token's row just below Hi":              {to("b\x00"), modelPageToken("b"), 9, "b3 b2 b1", nil},
		"Hi in the first tablet":                   {to("bz"), nil, 9, "a b3 b2 b1", nil},
		"Hi in the first tablet, the budget met":   {to("bz"), nil, 4, "a b3 b2 b1", behind("b")},
		"and behind it":                            {to("bz"), behind("b"), 4, "", nil},
		"the next Lo at Hi":                        {to("bzz"), nil, 9, "a b3 b2 b1 bz", nil},
		"the next Lo at Hi, the budget met":        {to("bzz"), nil, 5, "a b3 b2 b1 bz", behind("bz")},
		"the next Lo below Hi":                     {to("bzz\x00"), nil, 9, "a b3 b2 b1 bz", modelPageToken("bzz")},
		"the next Lo above Hi":                     {to("bzy"), nil, 9, "a b3 b2 b1 bz", nil},
		"the next Lo at Hi, from a middle tablet":  {to("c"), modelPageToken("bzz"), 9, "", nil},
		"the next Lo below Hi, from a middle one":  {to("c\x00"), modelPageToken("bzz"), 9, "", modelPageToken("c")},
		"Hi in the last tablet":                    {to("e"), modelPageToken("c"), 9, "c d", nil},
		"Hi in the last tablet, the budget met":    {to("e"), modelPageToken("c"), 2, "c d", behind("d")},
		"a Hi without HasHi":                       {impl.Range{Hi: "b"}, nil, 9, "a b3 b2 b1 bz", modelPageToken("bzz")},
		"a Hi without HasHi and a token beyond it": {impl.Range{Hi: "b"}, modelPageToken("c"), 9, "c d e", nil},
	} {
		wantPage(t, name, impl.ScanPage(passFilter(), s, c.rg, c.token, c.budget), c.vals, c.next)
		wantPage(t, name+" by the model", modelPage(newVMModel(), passFilter(), s, c.rg, c.token, c.budget), c.vals, c.next)
	}
}

func TestPageFilters(t *testing.T) {
	s := threeTablets()
	for _, c := range []struct {
		text   string
		token  []byte
		budget int64
		vals   string
		next   []byte
	}{
		{"block", nil, 1, "", modelPageToken("bzz")},
		{"cells 1", nil, 2, "a b3", modelPageToken("b\x00")},
		{"cells 1", nil, 3, "a b3 bz", modelPageToken("bz\x00")},
		{"skip 1", nil, 1, "b2 b1", modelPageToken("b\x00")},
		{"skip 2", nil, 2, "b1", modelPageToken("bzz")},
		{"versions 1", nil, 3, "a b3 b1", modelPageToken("b\x00")},
		{`if(ts 3.., skip 1, block)`, nil, 2, "b2 b1", modelPageToken("b\x00")},
		{`if(ts 3.., skip 1, block)`, nil, 3, "b2 b1", modelPageToken("bzz")},
		{`row "b"`, modelPageToken("a\x00"), 1, "b3 b2 b1", modelPageToken("b\x00")},
		{`row "d"`, modelPageToken("c"), 1, "d", modelPageToken("d\x00")},
		{`row "d"`, modelPageToken("c"), 2, "d", nil},
	} {
		wantPage(t, c.text, impl.ScanPage(parsed(t, c.text), s, impl.Range{}, c.token, c.budget), c.vals, c.next)
	}
}

func TestPageLargest(t *testing.T) {
	cells := manyPuts("r", impl.RunMax)
	s := storeOf(tabletOf("", runOf(cells...)))
	last := cells[impl.RunMax-1].Row
	page := impl.ScanPage(passFilter(), s, impl.Range{}, nil, impl.BudgetMax)
	if page.Done || !slices.Equal(page.Cells, cellsOf(cells...)) || !slices.Equal(page.Token, modelPageToken(last+"\x00")) {
		t.Errorf("RunMax cells: %d, done %v", len(page.Cells), page.Done)
	}
	page = impl.ScanPage(passFilter(), s, impl.Range{}, page.Token, impl.BudgetMax)
	if !samePage(page, impl.Page{Done: true}) {
		t.Errorf("behind them: %d cells, done %v", len(page.Cells), page.Done)
	}
	page = impl.ScanPage(passFilter(), s, impl.Range{HasHi: true, Hi: last}, nil, impl.BudgetMax)
	if !samePage(page, impl.Page{Cells: cellsOf(cells[:impl.RunMax-1]...), Done: true}) {
		t.Errorf("one cell less: %d cells, done %v", len(page.Cells), page.Done)
	}
	long := strings.Repeat("x", impl.RowMax)
	page = impl.ScanPage(passFilter(), storeOf(tabletOf("", rowsRun(long))), impl.Range{}, nil, 1)
	if !slices.Equal(page.Token, modelPageToken(long+"\x00")) {
		t.Errorf("the token of a row of RowMax bytes: %q", page.Token)
	}
	page = impl.ScanPage(passFilter(), storeOf(tabletOf("", rowsRun(long))), impl.Range{}, page.Token, 1)
	if !samePage(page, impl.Page{Done: true}) {
		t.Errorf("behind a row of RowMax bytes: %+v", page)
	}
}

// walk goes from token to token and holds each page against the model; between two pages the store may change its shape.
type walk struct {
	t      *testing.T
	m      *vmModel
	f      impl.Filter
	rg     impl.Range
	budget int64
	change func(s impl.Store) impl.Store
}

func (w walk) pages(s impl.Store) []impl.Page {
	w.t.Helper()
	var pages []impl.Page
	var token []byte
	for range 1000 {
		page := impl.ScanPage(w.f, s, w.rg, token, w.budget)
		if want := modelPage(w.m, w.f, s, w.rg, token, w.budget); !samePage(page, want) {
			w.t.Fatalf("%s from %q with budget %d in %+v over %+v:\n got %+v\nwant %+v", impl.PrintFilter(w.f), token, w.budget, w.rg, s, page, want)
		}
		w.wantFull(s, page)
		pages = append(pages, page)
		if page.Done {
			return pages
		}
		token = page.Token
		s = w.change(s)
	}
	w.t.Fatal("the pages do not end")
	return nil
}

// wantFull: a page of fewer cells than the budget is the last of its tablet, so that its token is of another's Lo.
func (w walk) wantFull(s impl.Store, page impl.Page) {
	w.t.Helper()
	row, _ := modelTokenRow(page.Token)
	ends := page.Done || slices.ContainsFunc(s.Tablets[1:], func(t impl.Tablet) bool { return t.Lo == row })
	if int64(len(page.Cells)) < w.budget && !ends {
		w.t.Fatalf("a page of %d cells with budget %d, with the token of %q", len(page.Cells), w.budget, row)
	}
}

// wantWhole: the pages have all cells, and no row is on two of them.
func wantWhole(t *testing.T, pages []impl.Page, all []impl.Cell) {
	t.Helper()
	var cells []impl.Cell
	for _, p := range pages {
		if len(cells) > 0 && len(p.Cells) > 0 && cells[len(cells)-1].Row == p.Cells[0].Row {
			t.Fatalf("the row %q is parted", p.Cells[0].Row)
		}
		cells = append(cells, p.Cells...)
	}
	if !slices.Equal(cells, all) {
		t.Fatalf("the pages have\n%+v, not\n%+v", cells, all)
	}
}

func rowCount(cells []impl.Cell) int {
	n := 0
	for i := range cells {
		if i == 0 || cells[i-1].Row != cells[i].Row {
			n++
		}
	}
	return n
}

// Promises 15 and 16.
func TestPagesDrawn(t *testing.T) {
	d := &dice{state: 712}
	m := newVMModel()
	longest, most := 0, 0
	for i := range 2500 {
		tr := drawTree(d, 1+d.roll(3), "ab")
		if i%3 == 0 {
			tr = bare(impl.NodePass)
		}
		s := drawStore(d, 24)
		w := walk{t, m, tr.filter(), drawRange(d), pick(d, []int64{1, 1, 2, 3, 4, 5, 8, impl.BudgetMax}), func(s impl.Store) impl.Store { return s }}
		if i%2 == 0 {
			w.rg = impl.Range{}
		}
		all := impl.ScanAll(w.f, s, w.rg)
		pages := w.pages(s)
		wantWhole(t, pages, all.Cells)
		if len(pages) > len(s.Tablets)+rowCount(all.Cells) {
			t.Fatalf("%d pages of %d tablets and %d rows", len(pages), len(s.Tablets), rowCount(all.Cells))
		}
		if len(pages) == len(s.Tablets)+rowCount(all.Cells) {
			most++
		}
		w.change = func(s impl.Store) impl.Store {
			for range d.roll(4) {
				s = []func(impl.Store, string) impl.Store{impl.SplitStore, impl.SplitStore, impl.MergeStore, impl.CompactStore}[d.roll(4)](s, pick(d, splitRows))
			}
			return s
		}
		pages = w.pages(s)
		wantWhole(t, pages, all.Cells)
		longest = max(longest, len(pages))
	}
	if longest < 8 || most < 100 {
		t.Errorf("at most %d pages; %d times as many as tablets and rows", longest, most)
	}
}

// Each single change of shape between each two pages of a small scan.
func TestPagesEveryChange(t *testing.T) {
	m := newVMModel()
	rows := []string{"", "a", "a\x00", "b", "b\x00", "bz", "bz\x00", "bzz", "c", "c\x00", "d", "d\x00", "e", "e\x00"}
	for _, budget := range []int64{1, 2, 3, 4, 5, 9} {
		all := impl.ScanAll(passFilter(), threeTablets(), impl.Range{})
		for when := range 10 {
			for _, row := range rows {
				for _, change := range []func(impl.Store, string) impl.Store{impl.SplitStore, impl.MergeStore, impl.CompactStore} {
					n := 0
					w := walk{t, m, passFilter(), impl.Range{}, budget, func(s impl.Store) impl.Store {
						n++
						if n-1 == when {
							return change(s, row)
						}
						return s
					}}
					wantWhole(t, w.pages(threeTablets()), all.Cells)
				}
			}
		}
	}
}

func TestScanMemory(t *testing.T) {
	d := &dice{state: 713}
	m := newVMModel()
	for range 300 {
		tr := drawTree(d, 1+d.roll(4), "ab")
		nodes := append(tr.postfix(), impl.Node{Kind: 7, S: "guard"}, impl.Node{Kind: 8, S: "guard"})
		f := impl.Filter{Nodes: nodes[:len(nodes)-2]}
		s, rg := roomyStore(drawStore(d, 16)), drawRange(d)
		token := append(modelPageToken(pick(d, splitRows)), "guard"...)
		nodesBefore, storeBefore, tokenBefore := slices.Clone(nodes), cloneStore(wholeStore(s)), slices.Clone(token)
		all, page := impl.ScanAll(f, s, rg), impl.ScanPage(f, s, rg, token[:len(token)-5], 3)
		if !slices.Equal(nodes, nodesBefore) || !sameStore(wholeStore(s), storeBefore) || !slices.Equal(token, tokenBefore) {
			t.Fatalf("%s: an argument was changed", tr.print())
		}
		wantAll, wantPage := modelScanAll(m, f, s, rg), modelPage(m, f, s, rg, token[:len(token)-5], 3)
		spoilStore(s)
		spoilNodes(nodes)
		for i := range token {
			token[i] = '!'
		}
		if !sameScan(all, wantAll) || !samePage(page, wantPage) {
			t.Fatalf("%s: the arguments are spoiled, and with them an answer", tr.print())
		}
		spoilCells(page.Cells)
		if !slices.Equal(page.Token, wantPage.Token) || !sameScan(all, wantAll) {
			t.Fatalf("%s: the cells of a page share memory", tr.print())
		}
	}
}
