package tests

import (
	"math"
	"slices"
	"strings"
	"testing"

	"loop.example/s01854/impl"
)

func wantValid(t *testing.T, name string, nodes []impl.Node, want bool) {
	t.Helper()
	f := impl.Filter{Nodes: nodes}
	if got := impl.ValidFilter(f); got != want {
		t.Errorf("%s: valid is %v", name, got)
	}
	if want {
		return
	}
	if got := impl.PrintFilter(f); len(got) != 0 {
		t.Errorf("%s is not valid and prints %q", name, got)
	}
	if got := impl.Normal(f); len(got.Nodes) != 0 {
		t.Errorf("%s is not valid and has the normal form %v", name, got)
	}
	if got := impl.Meaning(f, cellsOf(put("r", "f", "q", 1, "v"))); len(got) != 0 {
		t.Errorf("%s is not valid and lets through %v", name, got)
	}
}

// oneOfEach has a valid node of every kind of leaf.
func oneOfEach() []impl.Node {
	return []impl.Node{
		{Kind: 1}, {Kind: 2}, {Kind: 3}, {Kind: 4, S: "p"}, {Kind: 5, S: "p"}, {Kind: 6, S: "p"}, {Kind: 7, S: "p"},
		{Kind: 8, S: "a", HasHi: true, T: "b"}, {Kind: 9, S: "a", HasHi: true, T: "b"}, {Kind: 10, Lo: 1, HasHi: true, Hi: 2},
		{Kind: 11, N: 1}, {Kind: 12, N: 1}, {Kind: 13, N: 1},
	}
}

func TestValidFilterFields(t *testing.T) {
	pass := impl.Node{Kind: impl.NodePass}
	set := map[string]func(n *impl.Node){
		"S": func(n *impl.Node) { n.S = "s" }, "HasHi": func(n *impl.Node) { n.HasHi = true }, "T": func(n *impl.Node) { n.T = "t" },
		"Lo": func(n *impl.Node) { n.Lo = 1 }, "Hi": func(n *impl.Node) { n.Hi = 9 }, "N": func(n *impl.Node) { n.N = 7 }, "negative N": func(n *impl.Node) { n.N = -1 },
	}
	for _, n := range oneOfEach() {
		wantValid(t, "a leaf", []impl.Node{n}, true)
		for name, change := range set {
			other := n
			change(&other)
			wantValid(t, name+" set", []impl.Node{other}, modelNode(other))
		}
	}
	for kind := int64(14); kind <= 16; kind++ {
		operands := slices.Repeat([]impl.Node{pass}, map[int64]int{14: 2, 15: 2, 16: 3}[kind])
		wantValid(t, "an operator", append(slices.Clone(operands), impl.Node{Kind: kind}), true)
		for name, change := range set {
			other := impl.Node{Kind: kind}
			change(&other)
			wantValid(t, name+" set in an operator", append(slices.Clone(operands), other), false)
		}
	}
	for _, kind := range []int64{0, 17, -1, 256 + 1, 1<<32 + 1, math.MinInt64, math.MaxInt64} {
		wantValid(t, "an unknown kind", []impl.Node{{Kind: kind}}, false)
		wantValid(t, "an unknown kind below", []impl.Node{pass, {Kind: kind}, {Kind: 14}}, false)
	}
}

func TestValidFilterValues(t *testing.T) {
	long := strings.Repeat("a", 200)
	for _, r := range []struct {
		n    impl.Node
		want bool
	}{
		{impl.Node{Kind: 4}, true}, {impl.Node{Kind: 4, S: long}, true}, {impl.Node{Kind: 4, S: long + "a"}, false}, {impl.Node{Kind: 4, S: "("}, false}, {impl.Node{Kind: 5, S: "*"}, false}, {impl.Node{Kind: 6, S: "[b-a]"}, false}, {impl.Node{Kind: 7, S: strings.Repeat("(", 21)}, false}, {impl.Node{Kind: 7, S: "a]"}, false},
		{impl.Node{Kind: 8}, true}, {impl.Node{Kind: 9, S: "("}, true}, {impl.Node{Kind: 8, S: long}, true}, {impl.Node{Kind: 8, S: long + "a"}, false}, {impl.Node{Kind: 8, HasHi: true, T: long}, true}, {impl.Node{Kind: 8, HasHi: true, T: long + "a"}, false},
		{impl.Node{Kind: 8, HasHi: true}, false}, {impl.Node{Kind: 9, HasHi: true, T: "\x00"}, true}, {impl.Node{Kind: 8, S: "a", HasHi: true, T: "a"}, false}, {impl.Node{Kind: 8, S: "b", HasHi: true, T: "a"}, false}, {impl.Node{Kind: 8, S: "a", HasHi: true, T: "a\x00"}, true}, {impl.Node{Kind: 9, S: "aa", HasHi: true, T: "a"}, false}, {impl.Node{Kind: 9, S: "\x7f", HasHi: true, T: "\x80"}, true}, {impl.Node{Kind: 8, S: "a", T: "b"}, false}, {impl.Node{Kind: 9, T: "b"}, false},
		{impl.Node{Kind: 10}, true}, {impl.Node{Kind: 10, Lo: math.MaxUint64}, true}, {impl.Node{Kind: 10, HasHi: true}, false}, {impl.Node{Kind: 10, HasHi: true, Hi: 1}, true}, {impl.Node{Kind: 10, Lo: 5, HasHi: true, Hi: 5}, false}, {impl.Node{Kind: 10, Lo: 6, HasHi: true, Hi: 5}, false}, {impl.Node{Kind: 10, Lo: math.MaxUint64 - 1, HasHi: true, Hi: math.MaxUint64}, true}, {impl.Node{Kind: 10, Lo: 1, Hi: 2}, false},
		{impl.Node{Kind: 11}, false}, {impl.Node{Kind: 11, N: 1}, true}, {impl.Node{Kind: 12, N: 1000}, true}, {impl.Node{Kind: 13, N: 1001}, false}, {impl.Node{Kind: 13, N: 1000}, true}, {impl.Node{Kind: 12, N: 0}, false}, {impl.Node{Kind: 12, N: -1}, false}, {impl.Node{Kind: 11, N: math.MaxInt64}, false}, {impl.Node{Kind: 11, N: math.MinInt64}, false},
	} {
		wantValid(t, "a leaf", []impl.Node{r.n}, r.want)
		wantValid(t, "a leaf on the left", []impl.Node{r.n, {Kind: 1}, {Kind: 15}}, r.want)
		wantValid(t, "a leaf in an if", []impl.Node{{Kind: 1}, r.n, {Kind: 1}, {Kind: 16}}, r.want)
	}
}

func passes(n int) []impl.Node { return slices.Repeat([]impl.Node{{Kind: impl.NodePass}}, n) }

// leftChain is a chain of n leaves that groups to the left: 2n - 1 nodes.
func leftChain(n int) *tree {
	t := bare(impl.NodePass)
	for range n - 1 {
		t = chained(t, bare(impl.NodePass))
	}
	return t
}

func TestValidFilterTrees(t *testing.T) {
	chain, inter, branch := impl.Node{Kind: 14}, impl.Node{Kind: 15}, impl.Node{Kind: 16}
	for name, nodes := range map[string][]impl.Node{
		"none": {}, "nil": nil, "two leaves": passes(2), "only a chain": {chain}, "a chain of one": append(passes(1), chain), "an inter of one": append(passes(1), inter), "a chain of three": append(passes(3), chain),
		"an if of two": append(passes(2), branch), "an if of one": append(passes(1), branch), "an if of four": append(passes(4), branch), "an if alone": {branch}, "the operator first": {chain, {Kind: 1}, {Kind: 1}}, "the operator between": {{Kind: 1}, chain, {Kind: 1}}, "a leaf behind": append(append(passes(2), inter), passes(1)...),
		"199 leaves": passes(199), "201 nodes": leftChain(101).postfix(), "many": append(passes(50000), slices.Repeat([]impl.Node{chain}, 49999)...), "many leaves": passes(100000),
	} {
		wantValid(t, name, nodes, false)
	}
	wantValid(t, "an if", append(passes(3), branch), true)
	wantValid(t, "199 nodes", leftChain(100).postfix(), true)
	even := chosen(leftChain(1), leftChain(1), leftChain(1))
	for range 98 {
		even = united(even, bare(impl.NodePass))
	}
	wantValid(t, "200 nodes", even.postfix(), true)
	wantValid(t, "202 nodes", united(even, bare(impl.NodePass)).postfix(), false)
}

// nests gives ways to nest by one more.
func nests() map[string]func(inner *tree) *tree {
	pass := bare(impl.NodePass)
	return map[string]func(inner *tree) *tree{
		"an if's condition":        func(inner *tree) *tree { return chosen(inner, pass, pass) },
		"an if's first":            func(inner *tree) *tree { return chosen(pass, inner, pass) },
		"an if's second":           func(inner *tree) *tree { return chosen(pass, pass, inner) },
		"the right of a chain":     func(inner *tree) *tree { return chained(pass, inner) },
		"the right of an inter":    func(inner *tree) *tree { return united(pass, inner) },
		"an inter left of a chain": func(inner *tree) *tree { return united(chained(inner, pass), pass) },
	}
}

func TestValidFilterNesting(t *testing.T) {
	for name, nest := range nests() {
		inner := united(bare(impl.NodePass), bare(impl.NodeBlock))
		for n := 1; n <= 22; n++ {
			inner = nest(inner)
			if got := mostOpen(inner.print()); got != n {
				t.Fatalf("%s: nested %d, want %d: %s", name, got, n, inner.print())
			}
			wantValid(t, name, inner.postfix(), n <= 20)
			text := []byte(inner.print())
			if got := impl.ParseFilter(text); (got.Err == impl.SynOk) != (n <= 20) || n > 20 && got.Err != impl.SynNest {
				t.Errorf("%s: nested %d: error %d at %d", name, n, got.Err, got.At)
			}
		}
	}
	deep := bare(impl.NodePass)
	for i := range 20 {
		if i%2 == 0 {
			deep = chosen(deep, bare(1), bare(1))
		} else {
			deep = chained(bare(1), chained(deep, bare(1)))
		}
	}
	wantValid(t, "ifs and parentheses", deep.postfix(), true)
	wantValid(t, "beside", united(united(deep, chained(deep, bare(1))), chosen(bare(1), bare(1), bare(1))).postfix(), true)
	wantValid(t, "one if more", chosen(deep, bare(1), bare(1)).postfix(), false)
	wantValid(t, "one parenthesis more", united(bare(1), united(deep, bare(1))).postfix(), false)
	wantValid(t, "a long chain", leftChain(100).postfix(), true)
}

func TestValidFilterDrawn(t *testing.T) {
	d := &dice{state: 3}
	for range 4000 {
		nodes := drawTree(d, 1+d.roll(12), allReadable).postfix()
		wantValid(t, "a drawn filter", nodes, modelValid(impl.Filter{Nodes: nodes}))
		at := d.roll(len(nodes))
		switch d.roll(3) {
		case 0:
			nodes = slices.Delete(nodes, at, at+1)
		case 1:
			nodes = slices.Insert(nodes, at, pick(d, oneOfEach()))
		case 2:
			nodes[at].Kind = int64(d.roll(18))
		}
		wantValid(t, "a changed filter", nodes, modelValid(impl.Filter{Nodes: nodes}))
	}
}

func TestValidCells(t *testing.T) {
	long := func(n int) string { return strings.Repeat("x", n) }
	for name, r := range map[string]struct {
		cells []impl.Cell
		want  bool
	}{
		"none": {nil, true}, "one": {cellsOf(put("r", "f", "", 0, "")), true}, "the largest": {cellsOf(put(long(64), long(16), long(64), math.MaxUint64, long(200))), true},
		"no row": {cellsOf(put("", "f", "q", 1, "")), false}, "a long row": {cellsOf(put(long(65), "f", "q", 1, "")), false}, "no family": {cellsOf(put("r", "", "q", 1, "")), false}, "a long family": {cellsOf(put("r", long(17), "q", 1, "")), false},
		"a long qualifier": {cellsOf(put("r", "f", long(65), 1, "")), false}, "a long value": {cellsOf(put("r", "f", "q", 1, long(201))), false},
		"newest first": {cellsOf(put("r", "f", "q", 2, ""), put("r", "f", "q", 1, "")), true}, "oldest first": {cellsOf(put("r", "f", "q", 1, ""), put("r", "f", "q", 2, "")), false}, "one key twice": {cellsOf(put("r", "f", "q", 1, "a"), put("r", "f", "q", 1, "b")), false},
		"rows": {cellsOf(put("a", "f", "q", 1, ""), put("b", "f", "q", 2, "")), true}, "rows out of order": {cellsOf(put("b", "f", "q", 1, ""), put("a", "f", "q", 1, "")), false}, "families out of order": {cellsOf(put("a", "g", "a", 1, ""), put("a", "f", "q", 1, "")), false},
		"qualifiers out of order": {cellsOf(put("a", "f", "q", 1, ""), put("a", "f", "", 1, "")), false}, "a row comes again": {cellsOf(put("a", "f", "", 1, ""), put("b", "f", "", 1, ""), put("a", "f", "", 0, "")), false}, "a bad one last": {cellsOf(put("a", "f", "", 1, ""), put("b", "", "", 1, "")), false},
		"RunMax": {cellsOf(manyPuts("r", impl.RunMax)...), true}, "RunMax + 1": {cellsOf(manyPuts("r", impl.RunMax+1)...), false},
	} {
		if got := impl.ValidCells(r.cells); got != r.want {
			t.Errorf("%s: %v", name, got)
		}
		got := impl.Meaning(bare(impl.NodePass).filter(), r.cells)
		if r.want {
			wantCells(t, name, got, r.cells)
		} else if len(got) != 0 {
			t.Errorf("%s: not valid and lets through %v", name, got)
		}
	}
}

func parsed(t *testing.T, text string) impl.Filter {
	t.Helper()
	got := impl.ParseFilter([]byte(text))
	if got.Err != impl.SynOk {
		t.Fatalf("%q: error %d at %d", text, got.Err, got.At)
	}
	return got.Filter
}

func TestMeaningLeaves(t *testing.T) {
	cells := cellsOf(
		put("a", "f", "", 9, "x"), put("a", "f", "p", 9, ""), put("a", "f", "p", 8, "y"), put("a", "f", "p", 0, "x"), put("a", "f", "q", math.MaxUint64, "xx"), put("a", "g", "p", 9, "x"), put("a", "g", "p", 3, "z"),
		put("b", "f", "p", 9, "x"), put("b", "f", "p", 8, "x"), put("b", "g", "\xff", 5, "x"), put("ba", "f", "q", 5, "y"))
	for text, want := range map[string][]int{
		"pass": {0, 1, 2, 3, 4, 5, 6, 7, 8, 9, 10}, "block": nil,
		`row "a"`: {0, 1, 2, 3, 4, 5, 6}, `row "b.*"`: {7, 8, 9, 10}, `row "b"`: {7, 8, 9}, `row ""`: nil, `fam "g"`: {5, 6, 9}, `fam "f|g"`: {0, 1, 2, 3, 4, 5, 6, 7, 8, 9, 10}, `qual ""`: {0}, `qual "[^p]?"`: {0, 4, 9, 10}, `val "x"`: {0, 3, 5, 7, 8, 9}, `val "x+"`: {0, 3, 4, 5, 7, 8, 9}, `val ""`: {1}, `val "f"`: nil,
		"rows ..": {0, 1, 2, 3, 4, 5, 6, 7, 8, 9, 10}, `rows "b"..`: {7, 8, 9, 10}, `rows .."b"`: {0, 1, 2, 3, 4, 5, 6}, `rows "b".."ba"`: {7, 8, 9}, `rows "a\x00".."b\x00"`: {7, 8, 9}, `rows "c"..`: nil, `quals "p"..`: {1, 2, 3, 4, 5, 6, 7, 8, 9, 10}, `quals .."q"`: {0, 1, 2, 3, 5, 6, 7, 8}, `quals "p".."q"`: {1, 2, 3, 5, 6, 7, 8}, `quals "\x80"..`: {9},
		"ts ..": {0, 1, 2, 3, 4, 5, 6, 7, 8, 9, 10}, "ts 9..": {0, 1, 4, 5, 7}, "ts ..9": {2, 3, 6, 8, 9, 10}, "ts 5..9": {2, 8, 9, 10}, "ts ..1": {3}, "ts 18446744073709551615..": {4}, "ts ..18446744073709551615": {0, 1, 2, 3, 5, 6, 7, 8, 9, 10},
		"versions 1": {0, 1, 4, 5, 7, 9, 10}, "versions 2": {0, 1, 2, 4, 5, 6, 7, 8, 9, 10}, "versions 3": {0, 1, 2, 3, 4, 5, 6, 7, 8, 9, 10}, "cells 1": {0, 7, 10}, "cells 3": {0, 1, 2, 7, 8, 9, 10}, "cells 1000": {0, 1, 2, 3, 4, 5, 6, 7, 8, 9, 10}, "skip 1": {1, 2, 3, 4, 5, 6, 8, 9}, "skip 3": {3, 4, 5, 6}, "skip 1000": nil,
		"skip 1 > cells 1": {1, 8}, "cells 2 > skip 1": {1, 8}, "versions 1 > skip 2 > cells 1": {4}, "skip 1 > skip 1": {2, 3, 4, 5, 6, 9}, "cells 5 > versions 2 > skip 1": {1, 2, 4, 8, 9}, `val "x" > versions 1`: {0, 3, 5, 7, 9}, `versions 1 > val "x"`: {0, 5, 7, 9}, `fam "g" > cells 1`: {5, 9}, `cells 1 > fam "g"`: nil,
		"cells 1 | skip 6": {0, 6, 7, 10}, "skip 6 | cells 1": {0, 6, 7, 10}, `fam "g" | fam "f"`: {0, 1, 2, 3, 4, 5, 6, 7, 8, 9, 10}, "(cells 2 | skip 5) > skip 1 > cells 2": {1, 5, 8}, "versions 1 > (cells 1 | skip 2)": {0, 4, 5, 7, 10}, "block | block": nil,
		`if(val "y", cells 1, block)`: {0, 10}, `if(val "y", block, cells 1)`: {7}, `if(val "z", skip 5, skip 1)`: {5, 6, 8, 9}, `if(cells 1 > val "y", cells 1, skip 1)`: {1, 2, 3, 4, 5, 6, 8, 9, 10}, `if(skip 3, cells 1, block)`: {0}, `if(skip 2, cells 1, cells 2)`: {0, 7, 10}, `skip 1 > if(val "y", cells 1, cells 2)`: {1, 8, 9}, `if(block, pass, versions 1)`: {0, 1, 4, 5, 7, 9, 10}, `if(fam "g", if(val "z", cells 1, cells 2), skip 1)`: {0, 7, 8}, `cells 1 > if(skip 1, pass, pass > pass)`: {0, 7, 10},
	} {
		var expect []impl.Cell
		for _, i := range want {
			expect = append(expect, cells[i])
		}
		wantCells(t, text, impl.Meaning(parsed(t, text), cells), expect)
		wantCells(t, "the normal form of "+text, impl.Meaning(impl.Normal(parsed(t, text)), cells), expect)
	}
}

func TestMeaningStrip(t *testing.T) {
	full := cellsOf(put("a", "f", "p", 9, "x"), put("a", "f", "p", 8, "y"), put("b", "f", "p", 9, "x"))
	cut := cellsOf(put("a", "f", "p", 9, ""), put("a", "f", "p", 8, ""), put("b", "f", "p", 9, ""))
	for text, want := range map[string][]impl.Cell{
		"strip": cut, "strip > strip": cut, "strip > pass": cut, "strip | pass": cut, "pass | strip": full, "(strip | pass) | pass": cut, "block | strip": cut,
		"cells 1 > strip | pass": {cut[0], full[1], cut[2]}, "pass | cells 1 > strip": full, `val "x" > strip | pass`: {cut[0], full[1], cut[2]}, `strip > val "x"`: {}, `strip > val ""`: cut, `val "" > strip`: {}, "strip > cells 1 | skip 1": {cut[0], full[1], cut[2]},
		`if(strip > val "x", block, pass)`: full, `if(strip, pass, block)`: full, `if(val "y", strip, pass)`: {cut[0], cut[1], full[2]}, `strip > if(val "y", block, pass)`: cut, "(strip > cells 1 | pass) > skip 1": {full[1]}, "(strip > cells 1 | pass | strip) > versions 1": {cut[0], cut[2]},
	} {
		wantCells(t, text, impl.Meaning(parsed(t, text), full), want)
		wantCells(t, "the normal form of "+text, impl.Meaning(impl.Normal(parsed(t, text)), full), want)
	}
}

func TestMeaningDrawn(t *testing.T) {
	d := &dice{state: 71}
	m := filterModel{newGrammarModel()}
	told := 0
	for range 6000 {
		tr := drawTree(d, 1+d.roll(7), "ab")
		cells := drawCells(d, d.roll(25))
		want := m.meaning(tr, cells)
		wantCells(t, tr.print(), impl.Meaning(tr.filter(), cells), want)
		wantCells(t, "the normal form of "+tr.print(), impl.Meaning(impl.Normal(tr.filter()), cells), want)
		told += len(want)
		if t.Failed() {
			return
		}
	}
	if told < 20000 {
		t.Errorf("only %d cells were let through", told)
	}
}

func TestMeaningManyCells(t *testing.T) {
	cells := cellsOf(manyPuts("r", impl.RunMax)...)
	d := &dice{state: 8}
	var want []impl.Cell
	for i := range cells {
		var val []byte
		for range 60 {
			val = append(val, "ab"[d.roll(2)])
		}
		cells[i].Val = string(val)
		if val[29] == 'a' {
			want = append(want, cells[i])
		}
	}
	// So many sets of places come up that a matcher which keeps them all would grow without end.
	text := `val "(.|a)*a` + strings.Repeat(".", 30) + `"`
	wantCells(t, "a pattern of many sets", impl.Meaning(parsed(t, text), cells), want)
	wantCells(t, "200 nodes", impl.Meaning(leftChain(100).filter(), cells), cells)
}

func TestPrintLeaves(t *testing.T) {
	for text, n := range map[string]impl.Node{
		"pass": {Kind: 1}, "block": {Kind: 2}, "strip": {Kind: 3}, `row ""`: {Kind: 4}, `fam "a b"`: {Kind: 5, S: "a b"}, `qual "\\."`: {Kind: 6, S: "\\."}, `val "\""`: {Kind: 7, S: "\""},
		"rows ..": {Kind: 8}, `rows "a"..`: {Kind: 8, S: "a"}, `rows .."a"`: {Kind: 8, HasHi: true, T: "a"}, `quals "a".."b"`: {Kind: 9, S: "a", HasHi: true, T: "b"}, "quals ..": {Kind: 9},
		"ts ..": {Kind: 10}, "ts 5..": {Kind: 10, Lo: 5}, "ts ..5": {Kind: 10, HasHi: true, Hi: 5}, "ts 18446744073709551614..18446744073709551615": {Kind: 10, Lo: math.MaxUint64 - 1, HasHi: true, Hi: math.MaxUint64},
		"versions 1": {Kind: 11, N: 1}, "cells 1000": {Kind: 12, N: 1000}, "skip 10": {Kind: 13, N: 10},
		`rows "\x00\x1f !#[]^~\x7f\x80\xff\xc3\xa4\"\\".."a"`: {Kind: 8, S: "\x00\x1f !#[]^~\x7f\x80\xff\xc3\xa4\"\\", HasHi: true, T: "a"},
	} {
		f := impl.Filter{Nodes: []impl.Node{n}}
		if got := string(impl.PrintFilter(f)); got != text {
			t.Errorf("%+v prints %q, want %q", n, got, text)
		}
		if got := parsed(t, text); !slices.Equal(got.Nodes, f.Nodes) {
			t.Errorf("%q parses to %+v", text, got.Nodes)
		}
	}
}

func TestPrintParentheses(t *testing.T) {
	p, b, s := bare(1), bare(2), bare(3)
	for want, tr := range map[string]*tree{
		"pass > block > strip": chained(chained(p, b), s), "pass > (block > strip)": chained(p, chained(b, s)), "(pass | block) > strip": chained(united(p, b), s), "pass > (block | strip)": chained(p, united(b, s)),
		"pass | block | strip": united(united(p, b), s), "pass | (block | strip)": united(p, united(b, s)), "pass > block | strip": united(chained(p, b), s), "pass | block > strip": united(p, chained(b, s)),
		"if(pass, block, strip) > pass": chained(chosen(p, b, s), p), "pass | if(pass, block, strip)": united(p, chosen(p, b, s)), "pass > if(pass, block, strip)": chained(p, chosen(p, b, s)), "if(pass | block, block > strip, if(pass, block, strip))": chosen(united(p, b), chained(b, s), chosen(p, b, s)),
		"(pass | block) > (pass > block) > (strip | strip)": chained(chained(united(p, b), chained(p, b)), united(s, s)), "pass > block | (strip | pass > block)": united(chained(p, b), united(s, chained(p, b))), "(pass > (block | strip) | pass) > pass": chained(united(chained(p, united(b, s)), p), p),
	} {
		if got := string(impl.PrintFilter(tr.filter())); got != want {
			t.Errorf("prints %q, want %q", got, want)
		}
		if got := parsed(t, want); !slices.Equal(got.Nodes, tr.postfix()) {
			t.Errorf("%q parses to %+v", want, got.Nodes)
		}
	}
}

func TestPrintAndParseBack(t *testing.T) {
	d := &dice{state: 12}
	long := 0
	for i := range 6000 {
		letters := allReadable
		if i%2 == 0 {
			letters = allBytes()
		}
		tr := drawTree(d, 1+d.roll(40)*d.roll(2), letters)
		f := tr.filter()
		if !modelValid(f) {
			continue
		}
		text := impl.PrintFilter(f)
		if string(text) != tr.print() {
			t.Fatalf("prints %q, want %q", text, tr.print())
		}
		if got := impl.ParseFilter(text); got.Err != 0 || got.At != 0 || !slices.Equal(got.Filter.Nodes, f.Nodes) {
			t.Fatalf("%q comes back with error %d at %d as %+v", text, got.Err, got.At, got.Filter.Nodes)
		}
		long = max(long, len(text))
	}
	if long < 300 {
		t.Errorf("the longest print has %d bytes", long)
	}
}

func TestPrintAllBytes(t *testing.T) {
	all := allBytes()
	for _, s := range []string{all[:128], all[128:], all[56:]} {
		for _, n := range []impl.Node{{Kind: 8, S: s}, {Kind: 9, HasHi: true, T: s}} {
			f := impl.Filter{Nodes: []impl.Node{n}}
			if got, want := string(impl.PrintFilter(f)), leaf(n).print(); got != want {
				t.Errorf("prints %q, want %q", got, want)
			}
			if got := parsed(t, leaf(n).print()); !slices.Equal(got.Nodes, f.Nodes) {
				t.Errorf("%q does not come back", s)
			}
		}
	}
	for b := range 256 {
		n := impl.Node{Kind: 7, S: "\\" + string([]byte{byte(b)})}
		if got := parsed(t, string(impl.PrintFilter(impl.Filter{Nodes: []impl.Node{n}}))); got.Nodes[0] != n {
			t.Errorf("byte %d comes back as %+v", b, got)
		}
	}
}

func TestPrintAtFilterTextMax(t *testing.T) {
	// The last range fills up, so that the print has exactly as many bytes as wanted.
	fill := func(size int) *tree {
		wide := leaf(impl.Node{Kind: 8, S: strings.Repeat("\x01", 200), HasHi: true, T: strings.Repeat("\x02", 100)})
		tr := chained(chained(wide, wide), wide)
		left := size - len(tr.print()) - len(" > ") - len(`rows ""..`)
		return chained(tr, leaf(impl.Node{Kind: 8, S: strings.Repeat("\x01", left/4) + strings.Repeat("a", left%4)}))
	}
	for size, want := range map[int]int64{3999: impl.SynOk, 4000: impl.SynOk, 4001: impl.SynLong, 4100: impl.SynLong} {
		f := fill(size).filter()
		text := impl.PrintFilter(f)
		if len(text) != size {
			t.Fatalf("the print has %d bytes, want %d", len(text), size)
		}
		got := impl.ParseFilter(text)
		if got.Err != want || got.At != 0 || want == impl.SynOk && !slices.Equal(got.Filter.Nodes, f.Nodes) {
			t.Errorf("a print of %d bytes: error %d at %d", size, got.Err, got.At)
		}
	}
	for _, text := range []string{strings.Repeat(" ", 4001), strings.Repeat("?", 4001), strings.Repeat("pass>", 100000)} {
		if got := impl.ParseFilter([]byte(text)); got.Err != impl.SynLong || got.At != 0 || len(got.Filter.Nodes) != 0 {
			t.Errorf("%d bytes: error %d at %d", len(text), got.Err, got.At)
		}
	}
	wantError(t, strings.Repeat(" ", 4000), impl.SynToken, 4000)
	wantError(t, strings.Repeat(" ", 3996)+"pass", impl.SynOk, 0)
	wantError(t, "pass"+strings.Repeat(" ", 3996), impl.SynOk, 0)
	wantError(t, "pass"+strings.Repeat(" ", 3995)+">", impl.SynToken, 4000)
}

// agree holds ParseFilter against the model for a text.
func agree(t *testing.T, text string) impl.FilterRes {
	t.Helper()
	got, want := impl.ParseFilter([]byte(text)), modelParse(text)
	if got.Err != want.Err || got.At != want.At || !slices.Equal(got.Filter.Nodes, want.Filter.Nodes) {
		t.Fatalf("%q: %+v, want %+v", text, got, want)
	}
	if got.Err == impl.SynOk && !impl.ValidFilter(got.Filter) {
		t.Fatalf("%q: parsed to a filter that is not valid", text)
	}
	return got
}

func wantError(t *testing.T, text string, err, at int64) {
	t.Helper()
	if got := agree(t, text); got.Err != err || got.At != at || err != impl.SynOk && len(got.Filter.Nodes) != 0 {
		t.Errorf("%q: error %d at %d, want %d at %d", text, got.Err, got.At, err, at)
	}
}

func TestParseErrorsOfTokens(t *testing.T) {
	for _, r := range []struct {
		text string
		err  int64
		at   int64
	}{
		{"", impl.SynToken, 0}, {"   ", impl.SynToken, 3}, {"pass >  ", impl.SynToken, 8}, {"pass |", impl.SynToken, 6}, {"> pass", impl.SynToken, 0}, {"| pass", impl.SynToken, 0}, {"pass > > pass", impl.SynToken, 7}, {"pass | > pass", impl.SynToken, 7}, {", pass", impl.SynToken, 0}, {"pass, pass", impl.SynToken, 4}, {"5", impl.SynToken, 0}, {`"a"`, impl.SynToken, 0}, {"..", impl.SynToken, 0}, {"pass ..", impl.SynToken, 5}, {"pass 5", impl.SynToken, 5}, {`pass "a"`, impl.SynToken, 5}, {"pass(", impl.SynToken, 4}, {"pass pass", impl.SynToken, 5}, {"pass if", impl.SynToken, 5},
		{"()", impl.SynToken, 1}, {"(pass", impl.SynToken, 5}, {"(pass  ", impl.SynToken, 7}, {"(pass))", impl.SynToken, 6}, {")", impl.SynToken, 0}, {"(pass, pass)", impl.SynToken, 5}, {"(pass)(pass)", impl.SynToken, 6}, {"(pass) pass", impl.SynToken, 7}, {"((pass)", impl.SynToken, 7},
		{"if", impl.SynToken, 2}, {"if pass", impl.SynToken, 3}, {"if()", impl.SynToken, 3}, {"if(pass", impl.SynToken, 7}, {"if(pass)", impl.SynToken, 7}, {"if(pass,", impl.SynToken, 8}, {"if(pass,)", impl.SynToken, 8}, {"if(pass,pass)", impl.SynToken, 12}, {"if(pass,pass,pass", impl.SynToken, 17}, {"if(pass,pass,pass,", impl.SynToken, 17}, {"if(,pass,pass)", impl.SynToken, 3}, {"if((pass,pass,pass))", impl.SynToken, 8}, {"if(pass,(pass,pass))", impl.SynToken, 13}, {"if(if(pass,pass,pass),pass)", impl.SynToken, 26}, {"if((pass),pass,pass))", impl.SynToken, 20},
		{"row", impl.SynToken, 3}, {"row 5", impl.SynToken, 4}, {"row ..", impl.SynToken, 4}, {"row row", impl.SynToken, 4}, {"row > pass", impl.SynToken, 4}, {`row "a" "b"`, impl.SynToken, 8}, {`row "a"..`, impl.SynToken, 7}, {`fam ("a")`, impl.SynToken, 4}, {"qual,", impl.SynToken, 4}, {"val)", impl.SynToken, 3},
		{"rows", impl.SynToken, 4}, {"rows 5", impl.SynToken, 5}, {`rows "a"`, impl.SynToken, 8}, {`rows "a" "b"`, impl.SynToken, 9}, {`rows ..5`, impl.SynToken, 7}, {`rows ....`, impl.SynToken, 7}, {`rows .."a" "b"`, impl.SynToken, 11}, {`rows .."a"..`, impl.SynToken, 10}, {`rows .. pass`, impl.SynToken, 8}, {"quals >", impl.SynToken, 6}, {`ts "a"..`, impl.SynToken, 3}, {`ts .."a"`, impl.SynToken, 5}, {"ts 5", impl.SynToken, 4}, {"ts 5 5", impl.SynToken, 5}, {"ts 1..2 3", impl.SynToken, 8}, {"ts pass", impl.SynToken, 3}, {"ts", impl.SynToken, 2},
		{"versions", impl.SynToken, 8}, {`versions "a"`, impl.SynToken, 9}, {"versions ..", impl.SynToken, 9}, {"cells 1 1", impl.SynToken, 8}, {"cells 1..", impl.SynToken, 7}, {"skip skip", impl.SynToken, 5}, {"skip(1)", impl.SynToken, 4},
	} {
		wantError(t, r.text, r.err, r.at)
	}
}

func TestParseErrorsOfLetters(t *testing.T) {
	for _, r := range []struct {
		text string
		at   int64
	}{
		{"pas", 0}, {"passs", 0}, {"passz", 0}, {"zpass", 0}, {"passa", 0}, {"pass`", 4}, {"pass{", 4}, {"passblock", 0}, {"Pass", 0}, {"pAss", 0}, {"a", 0}, {"chain", 0}, {"inter", 0}, {"iff(pass,pass,pass)", 0}, {"  rowss", 2}, {"pass>x", 5},
		{"\n", 0}, {"pass\n", 4}, {"pass\t>pass", 4}, {"\x00", 0}, {"\xff", 0}, {"pass > \xc3\xa4", 7}, {"-", 0}, {"'a'", 0}, {"\\", 0}, {"pass < pass", 5}, {"pass & pass", 5}, {"[pass]", 0}, {"cells -1", 6}, {"cells +1", 6}, {"pass # x", 5}, {"pass>{", 5},
		{".", 0}, {"ts .", 3}, {"ts . .", 3}, {"ts 5. .6", 4}, {"ts 1...", 6}, {"ts ...5", 5}, {"ts 1.5", 4}, {"pass . pass", 5},
		{"ts 05..", 3}, {"ts 00..", 3}, {"ts ..00", 5}, {"ts 18446744073709551616..", 3}, {"ts ..18446744073709551616", 5}, {"ts 99999999999999999999..", 3}, {"cells 01", 6}, {"cells 00", 6}, {"cells 18446744073709551616", 6}, {"ts 0x5..", 4}, {"ts " + strings.Repeat("9", 3000) + "..", 3},
		{`row "`, 4}, {`row "a`, 4}, {`row "\`, 4}, {`row "\"`, 4}, {`row "\x`, 4}, {`row "\x4`, 4}, {`row "\x41`, 4}, {`row "\x4"`, 4}, {`row "\x"`, 4}, {`row "\x4G"`, 4}, {`row "\x4A"`, 4}, {`row "\X41"`, 4}, {`row "\n"`, 4}, {`row "\a"`, 4}, {`row "\ "`, 4}, {`row "\x 1"`, 4}, {"row \"\x01\"", 4}, {"row \"\x1f\"", 4}, {"row \"\x7f\"", 4}, {"row \"\x80\"", 4}, {"row \"\n\"", 4}, {"row \"\xff\"", 4}, {`  row   "a" > row "b`, 18}, {`row"a`, 3},
	} {
		wantError(t, r.text, impl.SynLex, r.at)
	}
}

func TestParseLengthsOfStr(t *testing.T) {
	for _, piece := range []string{"a", `\"`, `\\`, `\x61`, `\x00`} {
		wantError(t, `rows "`+strings.Repeat(piece, 200)+`"..`, impl.SynOk, 0)
		wantError(t, `rows "`+strings.Repeat(piece, 201)+`"..`, impl.SynLex, 5)
		wantError(t, `rows .."`+strings.Repeat(piece, 200)+`"`, impl.SynOk, 0)
		wantError(t, `rows .."`+strings.Repeat(piece, 201)+`"`, impl.SynLex, 7)
	}
	wantError(t, `val "`+strings.Repeat("a", 200)+`"`, impl.SynOk, 0)
	wantError(t, `val "`+strings.Repeat("a", 201)+`"`, impl.SynLex, 4)
	wantError(t, `val "`+strings.Repeat("(", 201)+`"`, impl.SynLex, 4)
}

func TestParseSpaces(t *testing.T) {
	for text, print := range map[string]string{
		"  pass  ": "pass", "pass>block|strip": "pass > block | strip", "  (  pass  )  ": "pass", `row"a"`: `row "a"`, `row    "a"`: `row "a"`, "cells5": "cells 5", "ts..": "ts ..", "ts5..6": "ts 5..6", "ts 5 .. 6": "ts 5..6", "ts 5..": "ts 5..", "ts..6|pass": "ts ..6 | pass", `rows"a".."b">pass`: `rows "a".."b" > pass`, `rows "a" .. "b" > pass`: `rows "a".."b" > pass`, "if (pass , block , strip )": "if(pass, block, strip)", "if(pass,block,strip)>pass": "if(pass, block, strip) > pass", "ts 0..": "ts ..", "ts 0..1": "ts ..1", `quals ""..`: "quals ..", `quals "".."a"`: `quals .."a"`, `row "\x41\x7e\x20"`: `row "A~ "`, `row "\x22"`: `row "\""`, `rows "\x5c"..`: `rows "\\"..`,
		"((((pass))))|(block)": "pass | block", "(pass>block)>strip": "pass > block > strip", "pass>(block)": "pass > block", "(pass>block)|strip": "pass > block | strip", "cells 1>skip2": "cells 1 > skip 2", "ts 18446744073709551615..": "ts 18446744073709551615..", `val " "`: `val " "`, `row"a">fam"b"`: `row "a" > fam "b"`,
	} {
		wantError(t, text, impl.SynOk, 0)
		if got := string(impl.PrintFilter(parsed(t, text))); got != print {
			t.Errorf("%q prints %q, want %q", text, got, print)
		}
	}
}

func TestParseErrorsOfMeaning(t *testing.T) {
	for _, r := range []struct {
		text string
		err  int64
		at   int64
	}{
		{`row "("`, impl.SynRegex, 4}, {`fam "*"`, impl.SynRegex, 4}, {`pass > qual "[b-a]"`, impl.SynRegex, 12}, {`val   "a\\"`, impl.SynRegex, 6}, {`val "` + strings.Repeat("(", 21) + `"`, impl.SynRegex, 4}, {`rows "("..")"`, impl.SynOk, 0}, {`row "\x28"`, impl.SynRegex, 4},
		{"cells 0", impl.SynNumber, 6}, {"cells 1", impl.SynOk, 0}, {"skip 1000", impl.SynOk, 0}, {"skip 1001", impl.SynNumber, 5}, {"versions   18446744073709551615", impl.SynNumber, 11}, {"versions 9223372036854775809", impl.SynNumber, 9}, {"versions 0", impl.SynNumber, 9}, {"skip 0", impl.SynNumber, 5}, {"versions 1001", impl.SynNumber, 9}, {"cells 4294967297", impl.SynNumber, 6},
		{"ts 5..5", impl.SynRange, 6}, {"ts 6..5", impl.SynRange, 6}, {"ts 5..6", impl.SynOk, 0}, {"ts ..0", impl.SynRange, 5}, {"ts 0..0", impl.SynRange, 6}, {"ts 18446744073709551615..18446744073709551615", impl.SynRange, 25}, {`rows "a".."a"`, impl.SynRange, 10}, {`rows "b".. "a"`, impl.SynRange, 11}, {`rows ..""`, impl.SynRange, 7}, {`rows ""..""`, impl.SynRange, 9}, {`quals "aa".."a"`, impl.SynRange, 12}, {`quals "a".."a\x00"`, impl.SynOk, 0}, {`quals "\x7f".."\x80"`, impl.SynOk, 0}, {`quals "\x80".."\x7f"`, impl.SynRange, 14},
	} {
		wantError(t, r.text, r.err, r.at)
	}
}

func TestParseOrderOfErrors(t *testing.T) {
	open := strings.Repeat("(", 20)
	full := "if(pass,pass,pass)" + strings.Repeat(">pass", 98)
	oneLeft := strings.Repeat("pass>", 99) + "pass"
	for _, r := range []struct {
		text string
		err  int64
		at   int64
	}{
		{"pass pas", impl.SynLex, 5}, {"pass 05", impl.SynLex, 5}, {`pass "a`, impl.SynLex, 5}, {"ts ..00", impl.SynLex, 5}, {"ts 5..05", impl.SynLex, 6}, {"cells 00", impl.SynLex, 6},
		{full, impl.SynOk, 0}, {full + " pass", impl.SynToken, 509}, {full + " if", impl.SynToken, 509}, {full + " pas", impl.SynLex, 509}, {full + ">", impl.SynNodes, 508}, {full + "|", impl.SynNodes, 508}, {full + ")", impl.SynToken, 508}, {full + "(", impl.SynToken, 508}, {full + "> )", impl.SynNodes, 508}, {full + ">x", impl.SynNodes, 508},
		{oneLeft + ">", impl.SynToken, 500}, {oneLeft + ">pass", impl.SynNodes, 500}, {oneLeft + ">if", impl.SynNodes, 500}, {oneLeft + ">row 5", impl.SynNodes, 500}, {oneLeft + ">x", impl.SynLex, 500}, {oneLeft + ">(", impl.SynToken, 501}, {oneLeft + ">(pass", impl.SynNodes, 501}, {oneLeft + ">)", impl.SynToken, 500}, {oneLeft + ">>", impl.SynToken, 500}, {oneLeft + "|cells 0", impl.SynNodes, 500},
		{open + "pass(", impl.SynToken, 24}, {open + "(", impl.SynNest, 20}, {open + "( x", impl.SynNest, 20}, {open + "(pass", impl.SynNest, 20}, {open + "if(", impl.SynNest, 22}, {open + "if pass", impl.SynToken, 23}, {open + "pass) > (pass" + strings.Repeat(")", 20), impl.SynOk, 0}, {open + "pass) > ((", impl.SynNest, 29}, {strings.Repeat("if(", 20) + "if(", impl.SynNest, 62}, {strings.Repeat("if(", 20) + "(", impl.SynNest, 60}, {strings.Repeat("if(", 20) + "pass,pass,pass),(pass),pass", impl.SynToken, 87},
		{`pass "("`, impl.SynToken, 5}, {`row "(" 5`, impl.SynRegex, 4}, {`row "(" $`, impl.SynRegex, 4}, {`cells 0 $`, impl.SynNumber, 6}, {`cells 0 0`, impl.SynNumber, 6}, {"pass 0", impl.SynToken, 5}, {"ts 5..5 $", impl.SynRange, 6}, {"ts 5 5", impl.SynToken, 5}, {`rows "b" "a"`, impl.SynToken, 9}, {`rows "b"..5`, impl.SynToken, 10}, {`pass pass $`, impl.SynToken, 5}, {`$ pass pass`, impl.SynLex, 0}, {`row "(" > cells 0`, impl.SynRegex, 4}, {`cells 0 > row "("`, impl.SynNumber, 6}, {`ts 5..5 > row "("`, impl.SynRange, 6}, {`(row "("`, impl.SynRegex, 5},
	} {
		wantError(t, r.text, r.err, r.at)
	}
}

func TestParseNodesAtNodeMax(t *testing.T) {
	for n := 96; n <= 102; n++ {
		for _, sign := range []string{">", "|", " > ", ")|(", "|if(pass,pass,pass)|"} {
			text := strings.Repeat("pass"+sign, n) + "pass"
			if sign == ")|(" {
				text = "(" + text + ")"
			}
			wantError(t, text, modelParse(text).Err, modelParse(text).At)
		}
	}
	got := impl.ParseFilter([]byte(strings.Repeat("pass|", 99) + "pass"))
	if len(got.Filter.Nodes) != 199 || !slices.Equal(got.Filter.Nodes[:5], []impl.Node{{Kind: 1}, {Kind: 1}, {Kind: 15}, {Kind: 1}, {Kind: 15}}) {
		t.Errorf("199 nodes: error %d, %+v", got.Err, got.Filter)
	}
}

func TestParseEveryShortListOfTokens(t *testing.T) {
	tokens := []string{"pass", "if", "row", "rows", "ts", "cells", "(", ")", ",", ">", "|", "..", `"a"`, `"("`, "5", "0"}
	var grow func(text string, n int)
	grow = func(text string, n int) {
		got := agree(t, text)
		// Behind the first error nothing more is read.
		if n == 0 || got.Err != impl.SynOk && got.At < int64(len(text)) {
			return
		}
		for _, token := range tokens {
			grow(text+token+" ", n-1)
		}
	}
	grow("", 7)
	for _, head := range []string{"if(", "if(pass,", "if(pass,pass,", "(pass", "if(pass > (", "rows ", "ts 5.."} {
		grow(head+" ", 4)
	}
}

func TestParseChangedTexts(t *testing.T) {
	d := &dice{state: 55}
	bits := []string{" ", "(", ")", ",", ">", "|", "..", ".", "\"", "\\", "\\x", "0", "5", "1000", "pass", "if", "row ", "ts ", "rows ", "cells ", "a", "$", "\x00", "\xff", "\"(\"", "18446744073709551615"}
	errors := map[int64]int{}
	for range 30000 {
		text := drawTree(d, 1+d.roll(6), allReadable).print()
		for range d.roll(4) {
			at := d.roll(len(text) + 1)
			end := min(len(text), at+d.roll(3))
			text = text[:at] + pick(d, bits) + text[end:]
		}
		errors[agree(t, text).Err]++
	}
	for _, err := range []int64{impl.SynOk, impl.SynLex, impl.SynToken, impl.SynRegex, impl.SynRange, impl.SynNumber} {
		if errors[err] < 20 {
			t.Errorf("error %d came up %d times", err, errors[err])
		}
	}
}

func TestParseAnyBytes(t *testing.T) {
	d := &dice{state: 56}
	for range 20000 {
		var text []byte
		for range d.roll(12) {
			text = append(text, byte(d.roll(256)))
		}
		agree(t, string(text))
	}
	everyText("pas (.\"1", 4, func(text string) { agree(t, text) })
}

func wantNormal(t *testing.T, tr *tree) {
	t.Helper()
	f, want := tr.filter(), tr.normal().filter()
	got := impl.Normal(f)
	if !slices.Equal(got.Nodes, want.Nodes) {
		t.Fatalf("%s becomes %q, want %q", tr.print(), impl.PrintFilter(got), impl.PrintFilter(want))
	}
	if !impl.ValidFilter(got) || len(got.Nodes) > len(f.Nodes) {
		t.Fatalf("%s becomes %q", tr.print(), impl.PrintFilter(got))
	}
	if again := impl.Normal(got); !slices.Equal(again.Nodes, got.Nodes) {
		t.Fatalf("%s becomes %q and then %q", tr.print(), impl.PrintFilter(got), impl.PrintFilter(again))
	}
}

func TestNormalRules(t *testing.T) {
	for text, want := range map[string]string{
		"pass": "pass", "block": "block", "strip": "strip", "cells 1": "cells 1",
		"pass > cells 1": "cells 1", "cells 1 > pass": "cells 1", "pass > pass": "pass", "pass > block": "block", "block > pass": "block", "block > cells 1": "block", "cells 1 > block": "block", "block > block": "block", "strip > strip": "strip", "strip > cells 1": "strip > cells 1", "cells 1 > strip": "cells 1 > strip", "cells 1 > cells 1": "cells 1 > cells 1", "strip > pass > strip": "strip", "strip > cells 1 > strip": "strip > cells 1 > strip", "cells 1 > strip > strip": "cells 1 > strip > strip", "cells 1 > (strip > strip)": "cells 1 > strip", "block > strip": "block",
		"block | cells 1": "cells 1", "cells 1 | block": "cells 1", "block | block": "block", "block | pass": "pass", "pass | block": "pass", "pass | cells 1": "pass", "cells 1 | pass": "cells 1 | pass", "strip | pass": "strip | pass", "pass | pass": "pass", "cells 1 | cells 1": "cells 1", "cells 1 | cells 2": "cells 1 | cells 2", "strip | strip": "strip", "pass | strip": "pass", `row "a" | fam "a"`: `row "a" | fam "a"`, `row "a" | row "a"`: `row "a"`, "ts 1.. | ts 1..2": "ts 1.. | ts 1..2", "(cells 1 > strip) | (pass > cells 1 > strip)": "cells 1 > strip", "cells 1 | (cells 1 | cells 2)": "cells 1 | (cells 1 | cells 2)",
		"if(pass, cells 1, skip 1)": "cells 1", "if(block, cells 1, skip 1)": "skip 1", "if(strip, cells 1, skip 1)": "if(strip, cells 1, skip 1)", "if(skip 2, cells 1, cells 1)": "cells 1", "if(skip 2, cells 1, pass > cells 1)": "cells 1", "if(cells 1, pass, block)": "if(cells 1, pass, block)", "if(pass | strip, block, pass)": "block", "if(cells 1 > block, block, pass)": "pass", "if(pass, block, block)": "block", "if(if(pass, block, pass), cells 1, cells 2)": "cells 2", "if(skip 1, if(pass, cells 1, strip), block | cells 1)": "cells 1",
		"(block | pass) > (strip > strip)": "strip", "(cells 1 > block) | (skip 1 > pass)": "skip 1", "if(skip 1, block, block) | pass": "pass", "(pass > (pass > pass)) > (block | block | versions 2)": "versions 2",
	} {
		if got := string(impl.PrintFilter(impl.Normal(parsed(t, text)))); got != want {
			t.Errorf("%q becomes %q, want %q", text, got, want)
		}
	}
}

func TestNormalEverySmallTree(t *testing.T) {
	m := filterModel{newGrammarModel()}
	cells := cellsOf(put("a", "f", "p", 9, "x"), put("a", "f", "p", 8, "y"), put("a", "f", "q", 8, ""), put("b", "f", "p", 9, "x"))
	leaves := []*tree{bare(1), bare(2), bare(3), counter(12, 1), counter(13, 1)}
	small := slices.Clone(leaves)
	for _, a := range leaves {
		for _, b := range leaves {
			small = append(small, chained(a, b), united(a, b))
			small = append(small, chosen(leaves[3], a, b), chosen(a, b, leaves[4]), chosen(b, leaves[2], a))
		}
	}
	check := func(tr *tree) {
		wantNormal(t, tr)
		want := m.meaning(tr, cells)
		wantCells(t, "the normal form of "+tr.print(), impl.Meaning(impl.Normal(tr.filter()), cells), want)
	}
	for i, a := range small {
		check(a)
		for j, b := range small {
			check(chained(a, b))
			check(united(a, b))
			check(chosen(small[(i*7+j*3)%len(small)], a, b))
		}
	}
}

func TestNormalDrawn(t *testing.T) {
	d := &dice{state: 77}
	for i := range 8000 {
		tr := drawTree(d, 1+d.roll(25), allReadable)
		if i%2 == 0 {
			plainLeaves(d, tr)
		}
		if modelValid(tr.filter()) {
			wantNormal(t, tr)
		}
	}
	for name, nest := range nests() {
		inner := chained(bare(1), bare(1))
		for mostOpen(nest(inner).print()) <= 20 {
			inner = nest(inner)
		}
		if got := impl.Normal(inner.filter()); len(got.Nodes) == 0 {
			t.Errorf("%s: no normal form of a deep filter", name)
		}
		wantNormal(t, inner)
	}
}

// plainLeaves sets most leaves to those that the rules speak of.
func plainLeaves(d *dice, t *tree) {
	for _, k := range t.kids {
		plainLeaves(d, k)
	}
	if len(t.kids) == 0 && d.roll(3) > 0 {
		t.node = impl.Node{Kind: int64(1 + d.roll(3))}
	}
}

func spoilNodes(nodes []impl.Node) {
	nodes = nodes[:cap(nodes)]
	for i := range nodes {
		nodes[i] = impl.Node{Kind: 99, S: "spoiled"}
	}
}

func TestFiltersLeaveArguments(t *testing.T) {
	d := &dice{state: 31}
	for range 300 {
		tr := drawTree(d, 1+d.roll(8), "ab")
		whole := append(tr.postfix(), impl.Node{Kind: 7, S: "guard"}, impl.Node{Kind: 8, S: "guard"})
		nodes := whole[:len(whole)-2]
		cells := append(drawCells(d, 20), cellOf(put("guard", "g", "g", 1, "g")), cellOf(put("guard", "g", "g", 0, "g")))
		row := cells[:len(cells)-2]
		text := []byte(tr.print() + ">>")
		wholeBefore, cellsBefore, textBefore := slices.Clone(whole), slices.Clone(cells), slices.Clone(text)
		f := impl.Filter{Nodes: nodes}
		impl.ValidFilter(f)
		impl.ValidCells(row)
		spoilCells(impl.Meaning(f, row))
		spoilNodes(impl.Normal(f).Nodes)
		print := impl.PrintFilter(f)
		clear(print[:cap(print)])
		spoilNodes(impl.ParseFilter(text[:len(text)-2]).Filter.Nodes)
		if !slices.Equal(whole, wholeBefore) || !slices.Equal(cells, cellsBefore) || !slices.Equal(text, textBefore) {
			t.Fatalf("%s: an argument was changed, or an answer shares its memory", tr.print())
		}
	}
}

func TestParsedFiltersKeepNoText(t *testing.T) {
	for _, source := range []string{`row "abc" > quals "de".."fg" | val "h\x41"`, `rows "abc"..`} {
		text := []byte(source)
		got := impl.ParseFilter(text)
		want := slices.Clone(modelParse(source).Filter.Nodes)
		for i := range text {
			text[i] = 'z'
		}
		if !slices.Equal(got.Filter.Nodes, want) {
			t.Errorf("%q: the filter changed with its text: %+v", source, got.Filter)
		}
	}
}

func TestFilterAnswersAreNew(t *testing.T) {
	f := parsed(t, `row "a" > (cells 2 | strip)`)
	cells := cellsOf(put("a", "f", "p", 9, "x"), put("a", "f", "p", 8, "y"))
	first := impl.Meaning(f, cells)
	spoilCells(first)
	wantCells(t, "a second answer", impl.Meaning(f, cells), cells)
	spoilNodes(impl.Normal(f).Nodes)
	if got := impl.Normal(f); !slices.Equal(got.Nodes, f.Nodes) {
		t.Errorf("a second normal form: %+v", got)
	}
}
