package tests

import (
	"fmt"
	"math"
	"slices"
	"strings"
	"testing"

	"loop.example/s01854/impl"
)

func leafIns(n impl.Node, a int64, free bool) impl.Ins {
	return impl.Ins{Op: impl.InsLeaf, A: a, Free: free, Leaf: n}
}

func passIns() impl.Ins { return leafIns(impl.Node{Kind: impl.NodePass}, 0, false) }

func codeBlock(counters int64, ins ...impl.Ins) impl.Block {
	return impl.Block{Ins: ins, Counters: counters}
}

func mainOf(counters int64, ins ...impl.Ins) impl.Code {
	return impl.Code{Main: codeBlock(counters, ins...)}
}

func isZeroScan(r impl.ScanRes) bool { return !r.Ok && len(r.Cells) == 0 && r.Ops == 0 }

// wantCode asks for no more than the words valid and not valid; code that is not valid is not run.
func wantCode(t *testing.T, name string, c impl.Code, want bool) {
	t.Helper()
	if got := impl.ValidCode(c); got != want {
		t.Errorf("%s: valid is %v", name, got)
	}
	for _, hints := range []bool{true, false} {
		got := impl.RunCode(c, cellsOf(put("r", "f", "q", 1, "v")), hints)
		if want && (!got.Ok || got.Ops != 1) {
			t.Errorf("%s: valid and runs as %+v", name, got)
		}
		if !want && !isZeroScan(got) {
			t.Errorf("%s: not valid and runs as %+v", name, got)
		}
	}
}

// wantBlock asks for the block as Main and as the condition behind two others.
func wantBlock(t *testing.T, name string, b impl.Block, want bool) {
	t.Helper()
	pass := codeBlock(0, passIns())
	wantCode(t, name, impl.Code{Main: b}, want)
	wantCode(t, name+" in a condition", impl.Code{Conds: []impl.Block{pass, pass, b}, Main: pass}, want)
	wantCode(t, name+" in the first condition", impl.Code{Conds: []impl.Block{b, pass}, Main: pass}, want)
}

func TestValidCodeSizes(t *testing.T) {
	pass := codeBlock(0, passIns())
	for n, want := range map[int]bool{0: true, 1: true, impl.BlockMax - 1: true, impl.BlockMax: true, impl.BlockMax + 1: false, 1000: false} {
		wantCode(t, fmt.Sprint(n, " conditions"), impl.Code{Conds: slices.Repeat([]impl.Block{pass}, n), Main: pass}, want)
	}
	for n, want := range map[int]bool{0: false, 1: true, 2: true, impl.InsMax: true, impl.InsMax + 1: false} {
		wantBlock(t, fmt.Sprint(n, " instructions"), codeBlock(0, slices.Repeat([]impl.Ins{passIns()}, n)...), want)
	}
	for n, want := range map[int64]bool{-1: false, 0: true, 1: true, impl.CounterMax: true, impl.CounterMax + 1: false, math.MinInt64: false, math.MaxInt64: false} {
		wantBlock(t, fmt.Sprint(n, " counters"), codeBlock(n, passIns()), want)
	}
	wantCode(t, "the zero code", impl.Code{}, false)
	wantCode(t, "no Main", impl.Code{Conds: []impl.Block{pass}}, false)
	whole := impl.Code{Conds: slices.Repeat([]impl.Block{pass}, impl.BlockMax), Main: pass}
	whole.Conds[impl.BlockMax-1] = impl.Block{}
	wantCode(t, "an empty last condition", whole, false)
}

func TestValidCodeOps(t *testing.T) {
	for _, op := range []int64{0, 7, -1, 256 + 1, 1<<32 + 1, math.MinInt64, math.MaxInt64} {
		wantBlock(t, fmt.Sprint("op ", op), codeBlock(0, impl.Ins{Op: op}), false)
		wantBlock(t, fmt.Sprint("op ", op, " with a leaf"), codeBlock(0, impl.Ins{Op: op, Leaf: impl.Node{Kind: 1}}), false)
		wantBlock(t, fmt.Sprint("op ", op, " with a target"), codeBlock(0, impl.Ins{Op: op, B: 1}), false)
	}
	wantBlock(t, "op 1", codeBlock(0, passIns()), true)
	wantBlock(t, "op 6", codeBlock(0, impl.Ins{Op: 6, B: 1}), true)
}

// fieldSetters set one field each to something.
func fieldSetters() map[string]func(ins *impl.Ins) {
	return map[string]func(ins *impl.Ins){
		"A": func(ins *impl.Ins) { ins.A = 1 }, "A below 0": func(ins *impl.Ins) { ins.A = -1 },
		"B": func(ins *impl.Ins) { ins.B = 5 }, "B below 0": func(ins *impl.Ins) { ins.B = -1 }, "Free": func(ins *impl.Ins) { ins.Free = true },
		"Leaf": func(ins *impl.Ins) { ins.Leaf = impl.Node{Kind: 1} }, "a part of Leaf": func(ins *impl.Ins) { ins.Leaf.S = "s" }, "another part of Leaf": func(ins *impl.Ins) { ins.Leaf.Hi = 1 },
	}
}

func TestValidCodeFields(t *testing.T) {
	for name, r := range map[string]struct {
		op     int64
		unused []string
	}{
		"a leaf": {1, []string{"A", "A below 0", "B", "B below 0"}}, "dup": {2, nil}, "swap": {3, nil}, "join": {4, nil},
		"branch": {5, []string{"A below 0", "Free", "Leaf", "a part of Leaf", "another part of Leaf", "B below 0"}},
		"jump":   {6, []string{"A", "A below 0", "Free", "Leaf", "a part of Leaf", "another part of Leaf", "B below 0"}},
	} {
		pass := codeBlock(0, passIns())
		whole := []impl.Ins{passIns(), {Op: 2}, {Op: 3}, {Op: 4}, {Op: 5, A: 0, B: 5}, {Op: 6, B: 6}, passIns()}
		at := int(r.op) - 1
		wantCode(t, name, impl.Code{Conds: []impl.Block{pass, pass}, Main: codeBlock(0, whole...)}, true)
		for field, set := range fieldSetters() {
			if r.unused != nil && !slices.Contains(r.unused, field) {
				continue
			}
			other := slices.Clone(whole)
			set(&other[at])
			wantCode(t, field+" of "+name, impl.Code{Conds: []impl.Block{pass, pass}, Main: codeBlock(0, other...)}, false)
			wantCode(t, field+" of "+name+" in a condition", impl.Code{Conds: []impl.Block{pass, pass, codeBlock(0, other...)}, Main: pass}, false)
		}
	}
}

func TestValidCodeLeaves(t *testing.T) {
	for _, n := range oneOfEach() {
		for _, free := range []bool{true, false} {
			wantBlock(t, fmt.Sprint("leaf ", n.Kind), codeBlock(1, leafIns(n, 0, free)), true)
		}
	}
	for _, n := range []impl.Node{
		{}, {Kind: -1}, {Kind: 17}, {Kind: 14}, {Kind: 15}, {Kind: 16}, {Kind: 1, N: 1}, {Kind: 4, S: "("}, {Kind: 7, S: "[b-a]"}, {Kind: 4, S: strings.Repeat("a", 201)}, {Kind: 8, HasHi: true}, {Kind: 9, S: "b", HasHi: true, T: "a"}, {Kind: 10, Lo: 2, HasHi: true, Hi: 2}, {Kind: 11}, {Kind: 12, N: 1001}, {Kind: 13, N: -1}, {Kind: 10, Hi: 3},
	} {
		wantBlock(t, fmt.Sprintf("leaf %+v", n), codeBlock(1, leafIns(n, 0, true)), false)
		wantBlock(t, fmt.Sprintf("leaf %+v behind another", n), codeBlock(1, passIns(), leafIns(n, 0, false)), false)
	}
	for _, n := range oneOfEach() {
		for _, counters := range []int64{0, 1, 2, 200} {
			for _, a := range []int64{-1, 0, 1, counters - 1, counters, math.MinInt64, math.MaxInt64} {
				want := a == 0
				if n.Kind >= impl.NodeVersions {
					want = a >= 0 && a < counters
				}
				wantBlock(t, fmt.Sprintf("leaf %d, counter %d of %d", n.Kind, a, counters), codeBlock(counters, leafIns(n, a, false)), want)
			}
		}
	}
}

func TestValidCodeConditions(t *testing.T) {
	pass := codeBlock(0, passIns())
	asks := func(a int64) impl.Block { return codeBlock(0, impl.Ins{Op: impl.InsBranch, A: a, B: 1}) }
	for conds := range 4 {
		for a := int64(-1); a <= 5; a++ {
			wantCode(t, fmt.Sprintf("Main asks %d of %d", a, conds), impl.Code{Conds: slices.Repeat([]impl.Block{pass}, conds), Main: asks(a)}, a >= 0 && a < int64(conds))
			for k := range conds {
				c := impl.Code{Conds: slices.Repeat([]impl.Block{pass}, conds), Main: pass}
				c.Conds[k] = asks(a)
				wantCode(t, fmt.Sprintf("condition %d asks %d of %d", k, a, conds), c, a >= 0 && a < int64(k))
			}
		}
	}
	whole := impl.Code{Conds: slices.Repeat([]impl.Block{pass}, impl.BlockMax), Main: asks(impl.BlockMax - 1)}
	whole.Conds[impl.BlockMax-1] = asks(impl.BlockMax - 2)
	wantCode(t, "the last of BlockMax", whole, true)
	wantCode(t, "far below", impl.Code{Conds: []impl.Block{pass}, Main: asks(math.MinInt64)}, false)
	wantCode(t, "far above", impl.Code{Conds: []impl.Block{pass}, Main: asks(math.MaxInt64)}, false)
}

func TestValidCodeTargets(t *testing.T) {
	pass := codeBlock(0, passIns())
	for n := 1; n <= 4; n++ {
		for k := range n {
			for _, b := range []int64{-1, 0, 1, 2, 3, 4, 5, 6, math.MinInt64, math.MaxInt64} {
				ins := slices.Repeat([]impl.Ins{passIns()}, n)
				ins[k] = impl.Ins{Op: impl.InsBranch, B: b}
				ahead := b > int64(k) && b <= int64(n)
				wantCode(t, fmt.Sprintf("branch at %d of %d to %d", k, n, b), impl.Code{Conds: []impl.Block{pass}, Main: codeBlock(0, ins...)}, ahead)
				ins[k] = impl.Ins{Op: impl.InsJump, B: b}
				// A jump over an instruction leaves it without a way to it.
				wantBlock(t, fmt.Sprintf("jump at %d of %d to %d", k, n, b), codeBlock(0, ins...), b == int64(k)+1)
			}
		}
	}
}

func TestValidCodeStack(t *testing.T) {
	dup, swap, join := impl.Ins{Op: 2}, impl.Ins{Op: 3}, impl.Ins{Op: 4}
	branch := func(b int64) impl.Ins { return impl.Ins{Op: 5, B: b} }
	jump := func(b int64) impl.Ins { return impl.Ins{Op: 6, B: b} }
	high := func(n int) []impl.Ins {
		return slices.Concat(slices.Repeat([]impl.Ins{dup}, n-1), slices.Repeat([]impl.Ins{join}, n-1))
	}
	for name, r := range map[string]struct {
		ins  []impl.Ins
		want bool
	}{
		"swap with one": {[]impl.Ins{swap}, false}, "join with one": {[]impl.Ins{join}, false}, "a second join": {[]impl.Ins{dup, join, join}, false}, "swap behind the join": {[]impl.Ins{dup, join, swap}, false},
		"swap with two": {[]impl.Ins{dup, swap, join}, true}, "join with two": {[]impl.Ins{dup, join}, true}, "swap with three": {[]impl.Ins{dup, dup, swap, join, swap, join}, true},
		"two at the end": {[]impl.Ins{dup}, false}, "two at the end behind a swap": {[]impl.Ins{dup, swap}, false}, "three at the end": {[]impl.Ins{dup, dup}, false}, "none at the end": {[]impl.Ins{dup, join, join, passIns()}, false},
		"StackMax": {high(250), true}, "StackMax + 1": {high(251), false}, "below StackMax": {high(249), true}, "StackMax twice": {append(high(250), high(250)...), true},
		"a leaf on each":  {[]impl.Ins{dup, passIns(), swap, passIns(), join}, true},
		"both ways alike": {[]impl.Ins{branch(3), passIns(), jump(4), passIns()}, true}, "one way pushes": {[]impl.Ins{branch(2), dup, passIns(), join}, false}, "both ways push": {[]impl.Ins{branch(3), dup, jump(4), dup, join}, true}, "one way joins": {[]impl.Ins{dup, branch(3), join, passIns()}, false}, "both ways join": {[]impl.Ins{dup, branch(4), join, jump(5), join}, true},
		"the ways differ at the end": {[]impl.Ins{branch(2), dup}, false}, "one way to the end has two": {[]impl.Ins{dup, branch(3), join}, false}, "the other way has two": {[]impl.Ins{branch(3), dup, jump(4), passIns()}, false},
		"branch to the next": {[]impl.Ins{branch(1)}, true}, "branch to the end": {[]impl.Ins{branch(2), passIns()}, true}, "two branches to one": {[]impl.Ins{branch(2), branch(2)}, true}, "a jump over a branch's target": {[]impl.Ins{branch(2), jump(3), passIns()}, true},
		"behind a jump": {[]impl.Ins{jump(2), passIns()}, false}, "reached by a branch alone": {[]impl.Ins{branch(2), jump(3), passIns(), passIns()}, true}, "an island": {[]impl.Ins{jump(3), branch(2), passIns(), passIns()}, false}, "the last not reached": {[]impl.Ins{passIns(), jump(3), passIns()}, false},
	} {
		pass := codeBlock(0, passIns())
		wantCode(t, name, impl.Code{Conds: []impl.Block{pass}, Main: codeBlock(0, r.ins...)}, r.want)
		wantCode(t, name+" in a condition", impl.Code{Conds: []impl.Block{pass, codeBlock(0, r.ins...)}, Main: pass}, r.want)
	}
}

func TestValidCodeEveryShortBlock(t *testing.T) {
	pass := codeBlock(0, passIns())
	count := map[bool]int{}
	for n := 1; n <= 4; n++ {
		choices := []impl.Ins{passIns(), {Op: 2}, {Op: 3}, {Op: 4}}
		for b := range int64(n + 2) {
			choices = append(choices, impl.Ins{Op: 5, B: b}, impl.Ins{Op: 6, B: b})
		}
		var grow func(ins []impl.Ins)
		grow = func(ins []impl.Ins) {
			if len(ins) < n {
				for _, c := range choices {
					grow(append(slices.Clone(ins), c))
				}
				return
			}
			c := impl.Code{Conds: []impl.Block{pass}, Main: codeBlock(0, ins...)}
			want := modelValidCode(c)
			count[want]++
			if got := impl.ValidCode(c); got != want {
				t.Errorf("%s: valid is %v", codeText(c), got)
			}
		}
		grow(nil)
	}
	if count[true] < 100 || count[false] < 100 {
		t.Errorf("%v", count)
	}
}

// changedCode gives code that differs from c in a few fields; it shares no memory with it.
func changedCode(d *dice, c impl.Code) impl.Code {
	c = cloneCode(c)
	for range d.roll(3) {
		b := &c.Main
		if n := len(c.Conds); n > 0 && d.roll(2) == 0 {
			b = &c.Conds[d.roll(n)]
		}
		k := d.roll(len(b.Ins))
		switch d.roll(9) {
		case 0:
			b.Ins[k].A += int64(d.roll(3) - 1)
		case 1:
			b.Ins[k].B += int64(d.roll(3) - 1)
		case 2:
			b.Ins[k].Free = !b.Ins[k].Free
		case 3:
			b.Ins[k].Op = int64(d.roll(8))
		case 4:
			b.Ins[k].Leaf = drawLeaf(d, "ab").node
		case 5:
			b.Counters += int64(d.roll(3) - 1)
		case 6:
			b.Ins = slices.Insert(b.Ins, k, impl.Ins{Op: int64(2 + d.roll(3))})
		case 7:
			b.Ins = slices.Insert(b.Ins, k, leafIns(drawLeaf(d, "ab").node, 0, d.roll(2) == 0))
		case 8:
			if len(b.Ins) > 1 {
				b.Ins = slices.Delete(b.Ins, k, k+1)
			}
		}
	}
	return c
}

func cloneCode(c impl.Code) impl.Code {
	c.Main.Ins = slices.Clone(c.Main.Ins)
	c.Conds = slices.Clone(c.Conds)
	for k := range c.Conds {
		c.Conds[k].Ins = slices.Clone(c.Conds[k].Ins)
	}
	return c
}

func TestValidCodeChanged(t *testing.T) {
	d := &dice{state: 601}
	count := map[bool]int{}
	for range 20000 {
		tr := drawTree(d, 1+d.roll(6), "ab")
		c := changedCode(d, modelCompile(tr))
		want := modelValidCode(c)
		count[want]++
		if got := impl.ValidCode(c); got != want {
			t.Fatalf("valid is %v: %+v", got, c)
		}
	}
	if count[true] < 1000 || count[false] < 1000 {
		t.Errorf("%v", count)
	}
}

func TestCompileByHand(t *testing.T) {
	for text, want := range map[string]string{
		"pass":                                                 "main 0: +pass",
		"versions 2":                                           "main 1: +versions 2 #0",
		"pass > block":                                         "main 0: +pass; +block",
		"cells 1 > pass":                                       "main 1: +cells 1 #0; -pass",
		"pass > cells 1":                                       "main 1: +pass; +cells 1 #0",
		"skip 1 > cells 1":                                     "main 2: +skip 1 #0; -cells 1 #1",
		"versions 1 > skip 2 > cells 3 > strip":                "main 3: +versions 1 #0; -skip 2 #1; -cells 3 #2; -strip",
		"strip > (pass > (versions 1 > block))":                "main 1: +strip; +pass; +versions 1 #0; -block",
		"pass | block":                                         "main 0: dup; +pass; swap; +block; join",
		"cells 1 | pass":                                       "main 1: dup; +cells 1 #0; swap; +pass; join",
		"pass | cells 1":                                       "main 1: dup; +pass; swap; +cells 1 #0; join",
		"(cells 1 | pass) > strip":                             "main 1: dup; +cells 1 #0; swap; +pass; join; -strip",
		"(pass | cells 1) > strip":                             "main 1: dup; +pass; swap; +cells 1 #0; join; -strip",
		"(cells 1 | skip 1) > strip":                           "main 2: dup; +cells 1 #0; swap; +skip 1 #1; join; -strip",
		"(pass | block) > strip":                               "main 0: dup; +pass; swap; +block; join; +strip",
		"cells 1 > (pass | block)":                             "main 1: +cells 1 #0; dup; -pass; swap; -block; join",
		"cells 1 > block | pass > skip 1":                      "main 2: dup; +cells 1 #0; -block; swap; +pass; +skip 1 #1; join",
		"pass | (strip | block)":                               "main 0: dup; +pass; swap; dup; +strip; swap; +block; join; join",
		"pass | strip | block":                                 "main 0: dup; dup; +pass; swap; +strip; join; swap; +block; join",
		"if(pass, strip, block)":                               "cond 0: +pass\nmain 0: branch 0 to 3; +strip; jump 4; +block",
		"if(cells 1, strip, block)":                            "cond 1: +cells 1 #0\nmain 0: branch 0 to 3; +strip; jump 4; +block",
		"if(pass, cells 1, block) > strip":                     "cond 0: +pass\nmain 1: branch 0 to 3; +cells 1 #0; jump 4; +block; -strip",
		"if(pass, block, cells 1) > strip":                     "cond 0: +pass\nmain 1: branch 0 to 3; +block; jump 4; +cells 1 #0; -strip",
		"if(pass, skip 1, cells 1) > strip":                    "cond 0: +pass\nmain 2: branch 0 to 3; +skip 1 #0; jump 4; +cells 1 #1; -strip",
		"if(cells 1, block, pass) > strip":                     "cond 1: +cells 1 #0\nmain 0: branch 0 to 3; +block; jump 4; +pass; +strip",
		"skip 1 > if(pass, block, strip)":                      "cond 1: +skip 1 #0; -pass\nmain 1: +skip 1 #0; branch 0 to 4; -block; jump 5; -strip",
		"strip > if(cells 1 > pass, block, versions 1 > pass)": "cond 1: +strip; +cells 1 #0; -pass\nmain 1: +strip; branch 0 to 4; +block; jump 6; +versions 1 #0; -pass",
		"if(pass, block > pass, strip > pass > pass)":          "cond 0: +pass\nmain 0: branch 0 to 4; +block; +pass; jump 7; +strip; +pass; +pass",
		"if(pass | block, pass, block) | strip":                "cond 0: dup; +pass; swap; +block; join\nmain 0: dup; branch 0 to 4; +pass; jump 5; +block; swap; +strip; join",
	} {
		c := impl.Compile(parsed(t, text))
		if got := codeText(c); got != want {
			t.Errorf("%s:\n%s\nwant\n%s", text, got, want)
		}
		if !impl.ValidCode(c) {
			t.Errorf("%s: its code is not valid", text)
		}
	}
}

func TestCompileConditionsByHand(t *testing.T) {
	for text, want := range map[string][]string{
		"if(if(pass, block, strip), cells 1, skip 1)":       {"cond 0: +pass", "cond 0: branch 0 to 3; +block; jump 4; +strip", "main 2: branch 1 to 3; +cells 1 #0; jump 4; +skip 1 #1"},
		"if(cells 1, if(cells 2, pass, pass), pass)":        {"cond 1: +cells 1 #0", "cond 1: +cells 2 #0", "main 0: branch 0 to 6; branch 1 to 4; +pass; jump 5; +pass; jump 7; +pass"},
		"if(cells 1, pass, if(cells 2, pass, pass))":        {"cond 1: +cells 1 #0", "cond 1: +cells 2 #0", "main 0: branch 0 to 3; +pass; jump 7; branch 1 to 6; +pass; jump 7; +pass"},
		"if(cells 1, pass, pass) > if(cells 2, pass, pass)": {"cond 1: +cells 1 #0", "cond 1: branch 0 to 3; +pass; jump 4; +pass; +cells 2 #0", "main 0: branch 0 to 3; +pass; jump 4; +pass; branch 1 to 7; +pass; jump 8; +pass"},
		"if(cells 1, pass, pass) | if(cells 2, pass, pass)": {"cond 1: +cells 1 #0", "cond 1: +cells 2 #0", "main 0: dup; branch 0 to 4; +pass; jump 5; +pass; swap; branch 1 to 9; +pass; jump 10; +pass; join"},
		// All three operands of an if have the same before it.
		"skip 1 > if(if(cells 1, pass, block), if(cells 2, pass, block), if(cells 3, pass, block))": {
			"cond 2: +skip 1 #0; -cells 1 #1",
			"cond 1: +skip 1 #0; branch 0 to 4; -pass; jump 5; -block",
			"cond 2: +skip 1 #0; -cells 2 #1",
			"cond 2: +skip 1 #0; -cells 3 #1",
			"main 1: +skip 1 #0; branch 1 to 7; branch 2 to 5; -pass; jump 6; -block; jump 11; branch 3 to 10; -pass; jump 11; -block",
		},
		// seen goes on from one left side to the next, and what is right of an if does not stand before it.
		"strip > (versions 1 > (fam \"f\" > if(pass, block, strip)) > cells 9)": {
			"cond 1: +strip; +versions 1 #0; -fam \"f\"; -pass",
			"main 2: +strip; +versions 1 #0; -fam \"f\"; branch 0 to 6; -block; jump 7; -strip; -cells 9 #1",
		},
		// An inter adds nothing of its other side, and the chain around it does.
		"skip 2 > (cells 1 | pass > if(val \"x\", pass, block))": {
			"cond 1: +skip 2 #0; -pass; -val \"x\"",
			"main 2: +skip 2 #0; dup; -cells 1 #1; swap; -pass; branch 0 to 8; -pass; jump 9; -block; join",
		},
		"(cells 1 | pass) > if(val \"x\", pass, block)": {
			"cond 1: dup; +cells 1 #0; swap; +pass; join; -val \"x\"",
			"main 1: dup; +cells 1 #0; swap; +pass; join; branch 0 to 8; -pass; jump 9; -block",
		},
		// An if on the left of a chain has nothing of the chain before it.
		"if(cells 1, pass, block) > skip 1": {"cond 1: +cells 1 #0", "main 1: branch 0 to 3; +pass; jump 4; +block; +skip 1 #0"},
		"pass > if(cells 1 > if(strip, pass, block), pass, block)": {
			"cond 1: +pass; +cells 1 #0; -strip",
			"cond 1: +pass; +cells 1 #0; branch 0 to 5; -pass; jump 6; -block",
			"main 0: +pass; branch 1 to 4; +pass; jump 5; +block",
		},
		"pass > if(pass, cells 2 > if(strip, pass, block), block)": {
			"cond 0: +pass; +pass",
			"cond 1: +pass; +cells 2 #0; -strip",
			"main 1: +pass; branch 0 to 8; +cells 2 #0; branch 1 to 6; -pass; jump 7; -block; jump 9; +block",
		},
		"if(pass, cells 1, block) > (if(pass, skip 1, block) > if(strip, pass, pass))": {
			"cond 0: +pass",
			"cond 1: branch 0 to 3; +cells 1 #0; jump 4; +block; -pass",
			"cond 2: branch 0 to 3; +cells 1 #0; jump 4; +block; branch 1 to 7; -skip 1 #1; jump 8; -block; -strip",
			"main 2: branch 0 to 3; +cells 1 #0; jump 4; +block; branch 1 to 7; -skip 1 #1; jump 8; -block; branch 2 to 11; -pass; jump 12; -pass",
		},
	} {
		c := impl.Compile(parsed(t, text))
		if got := codeText(c); got != strings.Join(want, "\n") {
			t.Errorf("%s:\n%s\nwant\n%s", text, got, strings.Join(want, "\n"))
		}
		if !impl.ValidCode(c) {
			t.Errorf("%s: its code is not valid", text)
		}
	}
}

func wantCompiled(t *testing.T, tr *tree) impl.Code {
	t.Helper()
	got, want := impl.Compile(tr.filter()), modelCompile(tr)
	if !sameCode(got, want) {
		t.Fatalf("%s:\n%s\nwant\n%s", tr.print(), codeText(got), codeText(want))
	}
	if !impl.ValidCode(got) || !modelValidCode(got) {
		t.Fatalf("%s: its code is not valid:\n%s", tr.print(), codeText(got))
	}
	return got
}

func TestCompileEveryLeaf(t *testing.T) {
	for _, n := range oneOfEach() {
		for _, first := range oneOfEach() {
			counts := first.Kind >= impl.NodeVersions
			c := wantCompiled(t, chained(leaf(first), leaf(n)))
			if len(c.Main.Ins) != 2 || !c.Main.Ins[0].Free || c.Main.Ins[1].Free == counts {
				t.Errorf("%d behind %d: %s", n.Kind, first.Kind, codeText(c))
			}
			wantCompiled(t, united(leaf(first), leaf(n)))
			wantCompiled(t, chosen(leaf(n), leaf(first), leaf(n)))
		}
		wantCompiled(t, leaf(n))
	}
}

func TestCompileEverySmallTree(t *testing.T) {
	leaves := []*tree{bare(1), counter(12, 1)}
	small := slices.Clone(leaves)
	for _, a := range leaves {
		for _, b := range leaves {
			small = append(small, chained(a, b), united(a, b), chosen(a, b, leaves[1]), chosen(b, leaves[0], a))
		}
	}
	for i, a := range small {
		for j, b := range small {
			wantCompiled(t, chained(a, b))
			wantCompiled(t, united(a, b))
			c := small[(i*7+j*3)%len(small)]
			for _, tr := range []*tree{chosen(a, b, c), chosen(b, c, a), chosen(c, a, b)} {
				wantCompiled(t, tr)
				wantCompiled(t, chained(a, tr))
				wantCompiled(t, chained(tr, chained(b, tr)))
				wantCompiled(t, united(c, chained(b, tr)))
			}
		}
	}
}

func TestCompileDrawn(t *testing.T) {
	d := &dice{state: 602}
	most := 0
	for range 5000 {
		tr := drawTree(d, 1+d.roll(25), "ab")
		if modelValid(tr.filter()) {
			most = max(most, len(wantCompiled(t, tr).Conds))
		}
	}
	if most < 8 {
		t.Errorf("at most %d conditions were drawn", most)
	}
}

func TestCompileLargeFilters(t *testing.T) {
	join := func(parts []string, sign string) *tree { return modelTree(parsed(t, strings.Join(parts, sign)).Nodes) }
	wantCompiled(t, leftChain(100))
	inters := wantCompiled(t, join(slices.Repeat([]string{"cells 1"}, 100), " | "))
	if len(inters.Main.Ins) != 100+3*99 || inters.Main.Counters != 100 {
		t.Errorf("100 leaves: %d instructions, %d counters", len(inters.Main.Ins), inters.Main.Counters)
	}
	ifs := wantCompiled(t, join(slices.Repeat([]string{"if(cells 1, pass, skip 1)"}, 40), " > "))
	if len(ifs.Conds) != 40 || len(ifs.Conds[39].Ins) != 39*4+1 || ifs.Conds[39].Counters != 40 {
		t.Errorf("40 ifs: %s", codeText(ifs))
	}
	inside := bare(impl.NodePass)
	for i := range int64(20) {
		inside = chosen(inside, counter(11, 1), chained(counter(13, 1+i), bare(impl.NodePass)))
	}
	for range 20 {
		inside = united(inside, bare(impl.NodeStrip))
	}
	wantCompiled(t, inside)
	for name, nest := range nests() {
		inner := chained(counter(12, 1), counter(13, 1))
		for mostOpen(nest(inner).print()) <= 20 {
			inner = nest(inner)
		}
		if c := wantCompiled(t, inner); len(c.Main.Ins) == 0 {
			t.Errorf("%s: no code of a deep filter", name)
		}
		if c := impl.Compile(nest(inner).filter()); len(c.Main.Ins) != 0 || len(c.Conds) != 0 {
			t.Errorf("%s: code of a filter that is nested too deep", name)
		}
	}
}

func TestCompileNotValid(t *testing.T) {
	for name, nodes := range map[string][]impl.Node{
		"none": nil, "a zero node": {{}}, "two leaves": passes(2), "an operator alone": {{Kind: 14}}, "an if of two": append(passes(2), impl.Node{Kind: 16}), "a bad pattern": {{Kind: 4, S: "("}}, "a count of 0": {{Kind: 12}}, "a count of 1001": {{Kind: 1}, {Kind: 13, N: 1001}, {Kind: 14}}, "an empty range": {{Kind: 8, S: "b", HasHi: true, T: "b"}}, "201 nodes": leftChain(101).postfix(), "an unknown kind": {{Kind: 17}},
	} {
		c := impl.Compile(impl.Filter{Nodes: nodes})
		if len(c.Conds) != 0 || len(c.Main.Ins) != 0 || c.Main.Counters != 0 {
			t.Errorf("%s: %s", name, codeText(c))
		}
		if got := impl.RunCode(c, cellsOf(put("r", "f", "q", 1, "v")), true); !isZeroScan(got) {
			t.Errorf("%s: runs as %+v", name, got)
		}
	}
}

// visited tells which cells the cursor stops at: those that make Ops grow when they are added at the end.
func visited(c impl.Code, cells []impl.Cell) []int {
	var at []int
	ops := int64(0)
	for i := range cells {
		if now := impl.RunCode(c, cells[:i+1], true).Ops; now > ops {
			at = append(at, i)
			ops = now
		}
	}
	return at
}

func chosenCells(cells []impl.Cell, at []int) []impl.Cell {
	var some []impl.Cell
	for _, i := range at {
		some = append(some, cells[i])
	}
	return some
}

func upTo(n int) []int {
	var all []int
	for i := range n {
		all = append(all, i)
	}
	return all
}

type seekCase struct {
	told  []int
	stops []int
}

func wantSeek(t *testing.T, name string, c impl.Code, cells []impl.Cell, want seekCase) {
	t.Helper()
	if want.stops == nil {
		want.stops = upTo(len(cells))
	}
	got := impl.RunCode(c, cells, true)
	if !got.Ok || got.Ops != int64(len(want.stops)) {
		t.Errorf("%s: ok %v with %d moves, want %d", name, got.Ok, got.Ops, len(want.stops))
	}
	wantCells(t, name, got.Cells, chosenCells(cells, want.told))
	if stops := visited(c, cells); !slices.Equal(stops, want.stops) {
		t.Errorf("%s: stops at %v, want %v", name, stops, want.stops)
	}
	if plain := impl.RunCode(c, cells, false); !plain.Ok || plain.Ops != int64(len(cells)) {
		t.Errorf("%s: without hints %v with %d moves", name, plain.Ok, plain.Ops)
	}
}

// ladder has behind its first cell one more of its column, its family twice, its row, and two other rows.
func ladder() []impl.Cell {
	return cellsOf(put("b", "f", "m", 5, "x"), put("b", "f", "m", 4, "y"), put("b", "f", "n", 5, "x"), put("b", "f", "p", 5, ""), put("b", "g", "m", 5, "x"), put("c", "f", "m", 5, "x"), put("e", "f", "m", 5, "x"))
}

// tall has columns of several versions.
func tall() []impl.Cell {
	return cellsOf(put("r", "f", "q", 9, "x"), put("r", "f", "q", 8, "x"), put("r", "f", "q", 7, "x"), put("r", "f", "q", 6, "x"), put("r", "f", "s", 9, "x"), put("r", "f", "s", 5, "x"), put("r", "g", "q", 7, "x"), put("s", "f", "q", 9, "x"), put("s", "f", "q", 8, "x"), put("s", "f", "q", 7, "x"))
}

func TestHintsOfTextLeaves(t *testing.T) {
	for text, want := range map[string]seekCase{
		"pass":  {told: upTo(7)},
		"block": {stops: []int{0}},
		// rowto, when the Row is below the prefix; row, when it begins with it; else end.
		`row "b"`: {told: upTo(5), stops: upTo(6)}, `row "c"`: {[]int{5}, []int{0, 5, 6}}, `row "d"`: {nil, []int{0, 6}}, `row "ca"`: {nil, []int{0, 6}}, `row "z"`: {nil, []int{0}}, `row "a"`: {nil, []int{0}}, `row "b."`: {nil, []int{0, 5}}, `row "c.*"`: {[]int{5}, []int{0, 5, 6}}, `row "e"`: {[]int{6}, []int{0, 6}}, `row "\\c"`: {[]int{5}, []int{0, 5, 6}},
		`row ".c"`: {nil, []int{0, 5, 6}}, `row ""`: {nil, []int{0, 5, 6}}, `row "x|c"`: {[]int{5}, []int{0, 5, 6}}, `row "c*e"`: {[]int{6}, []int{0, 5, 6}}, `row "(c)"`: {[]int{5}, []int{0, 5, 6}}, `row "[c]"`: {[]int{5}, []int{0, 5, 6}},
		`fam "f"`: {told: []int{0, 1, 2, 3, 5, 6}}, `fam "g"`: {[]int{4}, []int{0, 4, 5, 6}}, `fam "z"`: {nil, []int{0, 4, 5, 6}}, `fam "a"`: {nil, []int{0, 4, 5, 6}},
		// qual, when the Qual is below the prefix; column, when it begins with it; else family.
		`qual "m"`: {[]int{0, 1, 4, 5, 6}, []int{0, 1, 2, 4, 5, 6}}, `qual "n"`: {[]int{2}, []int{0, 2, 3, 4, 5, 6}}, `qual "o"`: {nil, []int{0, 3, 4, 5, 6}}, `qual "p"`: {[]int{3}, []int{0, 3, 4, 5, 6}}, `qual "z"`: {nil, []int{0, 4, 5, 6}}, `qual "a"`: {nil, []int{0, 4, 5, 6}}, `qual "mm"`: {nil, []int{0, 2, 4, 5, 6}},
		`qual "m."`: {nil, []int{0, 2, 4, 5, 6}}, `qual ".m"`: {nil, []int{0, 2, 3, 4, 5, 6}}, `qual ""`: {nil, []int{0, 2, 3, 4, 5, 6}}, `qual "a|n"`: {[]int{2}, []int{0, 2, 3, 4, 5, 6}}, `qual "n.*"`: {[]int{2}, []int{0, 2, 3, 4, 5, 6}},
		`val "x"`: {told: []int{0, 2, 4, 5, 6}}, `val "y"`: {told: []int{1}}, `val ""`: {told: []int{3}}, `val "z"`: {},
		`rows "c"..`: {[]int{5, 6}, []int{0, 5, 6}}, `rows "d"..`: {[]int{6}, []int{0, 6}}, `rows "z"..`: {nil, []int{0}}, `rows .."c"`: {upTo(5), upTo(6)}, `rows "c".."d"`: {[]int{5}, []int{0, 5, 6}}, `rows "a".."b"`: {nil, []int{0}}, `rows .."b"`: {nil, []int{0}}, "rows ..": {told: upTo(7)}, `rows "b".."ba"`: {upTo(5), upTo(6)}, `rows "c\x00".."d"`: {nil, []int{0, 6}},
		`quals "n"..`: {[]int{2, 3}, []int{0, 2, 3, 4, 5, 6}}, `quals .."n"`: {[]int{0, 1, 4, 5, 6}, []int{0, 1, 2, 4, 5, 6}}, `quals "n".."o"`: {[]int{2}, []int{0, 2, 3, 4, 5, 6}}, `quals "o"..`: {[]int{3}, []int{0, 3, 4, 5, 6}}, `quals "a".."b"`: {nil, []int{0, 4, 5, 6}}, `quals .."m"`: {nil, []int{0, 4, 5, 6}}, "quals ..": {told: upTo(7)}, `quals "z"..`: {nil, []int{0, 4, 5, 6}},
	} {
		wantSeek(t, text, impl.Compile(parsed(t, text)), ladder(), want)
		// Behind a counter the same cells are told, without a hint.
		wantSeek(t, "cells 1000 > "+text, impl.Compile(chained(counter(12, 1000), modelTree(parsed(t, text).Nodes)).filter()), ladder(), seekCase{told: want.told})
	}
}

func TestHintsOfRowPrefixes(t *testing.T) {
	cells := cellsOf(put("a", "f", "", 1, ""), put("a", "g", "", 1, ""), put("b", "f", "", 1, ""), put("b", "g", "", 1, ""), put("ba", "f", "", 1, ""), put("ba", "g", "", 1, ""), put("bb", "f", "", 1, ""), put("c", "f", "", 1, ""), put("d", "f", "", 1, ""))
	for text, want := range map[string]seekCase{
		`row "ba"`: {[]int{4, 5}, []int{0, 4, 5, 6}}, `row "b.*a"`: {[]int{4, 5}, []int{0, 2, 4, 5, 6, 7}}, `row "bb.+"`: {nil, []int{0, 6, 7}}, `row "b(a|b)"`: {[]int{4, 5, 6}, []int{0, 2, 4, 5, 6, 7}}, `row "b+"`: {[]int{2, 3, 6}, []int{0, 2, 3, 4, 6, 7, 8}}, `rows "b\x00".."bb"`: {[]int{4, 5}, []int{0, 4, 5, 6}},
	} {
		wantSeek(t, text, impl.Compile(parsed(t, text)), cells, want)
	}
}

func TestHintsOfTsAndCounters(t *testing.T) {
	for text, want := range map[string]seekCase{
		"ts 8..": {[]int{0, 1, 4, 7, 8}, []int{0, 1, 2, 4, 5, 6, 7, 8, 9}}, "ts 10..": {nil, []int{0, 4, 6, 7}}, "ts 7..9": {told: []int{1, 2, 6, 8, 9}}, "ts ..7": {told: []int{3, 5}}, "ts ..": {told: upTo(10)}, "ts 10..11": {nil, []int{0, 4, 6, 7}}, "ts ..5": {},
		"versions 1": {[]int{0, 4, 6, 7}, []int{0, 1, 4, 5, 6, 7, 8}}, "versions 2": {[]int{0, 1, 4, 5, 6, 7, 8}, []int{0, 1, 2, 4, 5, 6, 7, 8, 9}}, "versions 4": {told: upTo(10)},
		"cells 1": {[]int{0, 7}, []int{0, 1, 7, 8}}, "cells 2": {[]int{0, 1, 7, 8}, []int{0, 1, 2, 7, 8, 9}}, "cells 5": {[]int{0, 1, 2, 3, 4, 7, 8, 9}, []int{0, 1, 2, 3, 4, 5, 7, 8, 9}}, "cells 7": {told: upTo(10)},
		"skip 1": {told: []int{1, 2, 3, 4, 5, 6, 8, 9}}, "skip 3": {told: []int{3, 4, 5, 6}}, "skip 7": {}, "skip 6": {told: []int{6}},
		"versions 1 > cells 1": {[]int{0, 7}, []int{0, 1, 4, 5, 6, 7, 8}}, "cells 1 > versions 1": {[]int{0, 7}, []int{0, 1, 7, 8}}, "skip 1 > cells 1": {told: []int{1, 8}}, "versions 1 > skip 1": {[]int{4, 6}, []int{0, 1, 4, 5, 6, 7, 8}}, `quals "s".. > cells 1`: {[]int{4}, []int{0, 4, 5, 7}}, `cells 1 > quals "s"..`: {nil, []int{0, 1, 7, 8}}, `ts 7.. > versions 1`: {[]int{0, 4, 6, 7}, []int{0, 1, 4, 5, 6, 7, 8}}, `versions 3 > ts 8..`: {[]int{0, 1, 4, 7, 8}, []int{0, 1, 2, 3, 4, 5, 6, 7, 8, 9}}, `fam "g" > versions 1 > cells 1`: {[]int{6}, []int{0, 6, 7}},
	} {
		wantSeek(t, text, impl.Compile(parsed(t, text)), tall(), want)
	}
}

func TestLesserHint(t *testing.T) {
	for text, want := range map[string]seekCase{
		`quals "n".. | quals "p"..`: {[]int{2, 3}, []int{0, 2, 3, 4, 5, 6}}, `quals "o".. | quals "q"..`: {[]int{3}, []int{0, 3, 4, 5, 6}}, `quals "n".."o" | quals "o".."p"`: {[]int{2}, []int{0, 2, 3, 4, 5, 6}}, `qual "o" | qual "z"`: {nil, []int{0, 3, 4, 5, 6}},
		`rows "c".. | rows "e"..`: {[]int{5, 6}, []int{0, 5, 6}}, `rows "d".. | rows "e"..`: {[]int{6}, []int{0, 6}}, `row "c" | rows "z"..`: {[]int{5}, []int{0, 5, 6}}, `row "d" | row "z"`: {nil, []int{0, 6}},
		"block | block": {nil, []int{0}}, `block | rows "e"..`: {[]int{6}, []int{0, 6}}, `block | cells 1`: {[]int{0, 5, 6}, []int{0, 1, 5, 6}}, `block | fam "g"`: {[]int{4}, []int{0, 4, 5, 6}}, `block | quals "p"..`: {[]int{3}, []int{0, 3, 4, 5, 6}}, "block | ts 6..": {nil, []int{0, 2, 3, 4, 5, 6}}, `block | val "y"`: {told: []int{1}},
		`rows "e".. | cells 1`: {[]int{0, 5, 6}, []int{0, 1, 5, 6}}, `rows "e".. | row ".b"`: {[]int{6}, []int{0, 5, 6}}, `rows "e".. | fam "g"`: {[]int{4, 6}, []int{0, 4, 5, 6}}, `rows "e".. | quals "o"..`: {[]int{3, 6}, []int{0, 3, 4, 5, 6}}, `rows "e".. | ts 6..`: {[]int{6}, []int{0, 2, 3, 4, 5, 6}}, `rows "e".. | val "y"`: {told: []int{1, 6}},
		`cells 1 | fam "g"`: {[]int{0, 4, 5, 6}, []int{0, 1, 4, 5, 6}}, `row "." > cells 1 | quals "p"..`: {[]int{0, 3, 5, 6}, []int{0, 1, 3, 4, 5, 6}}, "cells 1 | ts 6..": {[]int{0, 5, 6}, []int{0, 1, 2, 3, 4, 5, 6}}, `row ".." | fam "g"`: {[]int{4}, []int{0, 4, 5, 6}},
		`fam "g" | quals "p"..`: {[]int{3, 4}, []int{0, 3, 4, 5, 6}}, "fam \"g\" | ts 6..": {[]int{4}, []int{0, 2, 3, 4, 5, 6}}, `quals "p".. | ts 6..`: {[]int{3}, []int{0, 2, 3, 4, 5, 6}}, `ts 6.. | val "z"`: {}, `fam "g" | skip 9`: {told: []int{4}}, "ts 6.. | versions 1": {[]int{0, 2, 3, 4, 5, 6}, upTo(7)},
	} {
		parts := strings.Split(text, " | ")
		for _, way := range []string{text, parts[1] + " | " + parts[0]} {
			wantSeek(t, way, impl.Compile(parsed(t, way)), ladder(), want)
		}
		behind := "(" + text + ") > pass"
		wantSeek(t, behind, impl.Compile(parsed(t, behind)), ladder(), want)
		inside := "block | (block | (" + text + "))"
		wantSeek(t, inside, impl.Compile(parsed(t, inside)), ladder(), want)
	}
}

// Free is a flag of the code, not of the leaf: here it stands otherwise than Compile sets it.
func TestFreeFlag(t *testing.T) {
	for _, n := range oneOfEach() {
		if n.Kind == impl.NodeStrip {
			continue
		}
		wantSeek(t, leaf(n).print(), mainOf(1, leafIns(n, 0, false)), ladder(), seekCase{told: indexes(ladder(), newVMModel().meaning(leaf(n), ladder()))})
	}
	wantSeek(t, "a hint behind a counter", mainOf(1, leafIns(impl.Node{Kind: 12, N: 1}, 0, false), leafIns(impl.Node{Kind: 6, S: "z"}, 0, true)), ladder(), seekCase{stops: []int{0, 4, 5, 6}})
	wantSeek(t, "cells without a hint", mainOf(1, leafIns(impl.Node{Kind: 12, N: 1}, 0, false)), ladder(), seekCase{told: []int{0, 5, 6}})
	dead := []impl.Ins{leafIns(impl.Node{Kind: 2}, 0, false), leafIns(impl.Node{Kind: 2}, 0, true)}
	wantSeek(t, "a dead item keeps its hint", mainOf(0, dead...), ladder(), seekCase{})
	slices.Reverse(dead)
	wantSeek(t, "a dead item keeps its end", mainOf(0, dead...), ladder(), seekCase{stops: []int{0}})
	skips := []impl.Ins{leafIns(impl.Node{Kind: 2}, 0, true), leafIns(impl.Node{Kind: 13, N: 1}, 0, true)}
	wantSeek(t, "a dead item does not count", mainOf(1, slices.Concat([]impl.Ins{{Op: 2}}, skips, []impl.Ins{{Op: 3}}, []impl.Ins{leafIns(impl.Node{Kind: 13, N: 1}, 0, true), {Op: 4}})...), ladder(), seekCase{told: []int{1, 2, 3, 4}})
}

// indexes relies on the cells told being as they stand in the list.
func indexes(cells, told []impl.Cell) []int {
	var at []int
	for i, c := range cells {
		if slices.ContainsFunc(told, func(o impl.Cell) bool { return o == c }) {
			at = append(at, i)
		}
	}
	return at
}

func TestSharedCounters(t *testing.T) {
	versions := func(n int64) impl.Ins { return leafIns(impl.Node{Kind: 11, N: n}, 0, false) }
	cells := func(n int64) impl.Ins { return leafIns(impl.Node{Kind: 12, N: n}, 0, false) }
	skip := func(n int64) impl.Ins { return leafIns(impl.Node{Kind: 13, N: n}, 0, false) }
	for name, r := range map[string]struct {
		ins  []impl.Ins
		told []int
	}{
		"cells and cells": {[]impl.Ins{cells(2), cells(3)}, []int{0, 7}}, "cells and more cells": {[]impl.Ins{cells(5), cells(4)}, []int{0, 1, 7, 8}}, "versions and versions": {[]impl.Ins{versions(3), versions(3)}, []int{0, 4, 6, 7}}, "skip and skip": {[]impl.Ins{skip(1), skip(2)}, []int{2, 3, 4, 5, 6, 9}},
		// Counting goes on in the row from the column where it began, but for versions, which begins anew in each.
		"versions, then cells": {[]impl.Ins{versions(1), cells(2)}, []int{0, 4, 6, 7}}, "cells, then versions": {[]impl.Ins{cells(1), versions(2)}, []int{0, 7}}, "many cells, then versions": {[]impl.Ins{cells(9), versions(3)}, []int{0, 4, 5, 6, 7}}, "skip, then versions": {[]impl.Ins{skip(1), versions(2)}, []int{1, 4, 5, 6, 8}}, "versions, then skip": {[]impl.Ins{versions(3), skip(2)}, []int{1, 5, 8}}, "skip, then cells": {[]impl.Ins{skip(1), cells(3)}, []int{1, 2, 8, 9}}, "cells, then skip": {[]impl.Ins{cells(3), skip(2)}, []int{1, 8}},
		"skips and versions": {[]impl.Ins{skip(2), versions(4), skip(3)}, []int{2, 3, 5, 9}},
	} {
		wantSeek(t, name, mainOf(1, r.ins...), tall(), seekCase{told: r.told})
		m := newVMModel()
		wantCells(t, name+" by the model", m.run(mainOf(1, r.ins...), tall(), true).Cells, chosenCells(tall(), r.told))
		// The same block as a condition asks whether something of the row is told.
		c := impl.Code{Conds: []impl.Block{codeBlock(1, r.ins...)}, Main: codeBlock(0, impl.Ins{Op: 5, B: 2}, impl.Ins{Op: 6, B: 3}, leafIns(impl.Node{Kind: 2}, 0, true))}
		wantCells(t, name+" in a condition", impl.RunCode(c, tall(), true).Cells, m.run(c, tall(), true).Cells)
	}
	own := mainOf(200, leafIns(impl.Node{Kind: 12, N: 2}, 199, false), leafIns(impl.Node{Kind: 12, N: 3}, 0, false))
	wantSeek(t, "a counter each", own, tall(), seekCase{told: []int{0, 1, 7, 8}})
}

func TestRunStripped(t *testing.T) {
	cells := cellsOf(put("a", "f", "p", 9, "x"), put("a", "f", "p", 8, ""), put("a", "f", "q", 8, "y"), put("b", "f", "p", 9, "x"))
	cut := slices.Clone(cells)
	for i := range cut {
		cut[i].Val = ""
	}
	for text, want := range map[string][]impl.Cell{
		"strip": cut, "strip > pass": cut, "strip > strip": cut, `strip > val "x"`: nil, `strip > val ""`: cut, `val "x" > strip`: {cut[0], cut[3]}, `val "" > strip`: {cut[1]},
		"pass | strip": cells, "strip | pass": cut, "cells 1 > strip | pass": {cut[0], cells[1], cells[2], cut[3]}, "pass | cells 1 > strip": cells, `val "x" > strip | val "y"`: {cut[0], cells[2], cut[3]}, `val "y" | val "x" > strip`: {cut[0], cells[2], cut[3]}, `strip > val "x" | val "x"`: {cells[0], cells[3]}, `val "y" | strip`: {cut[0], cut[1], cells[2], cut[3]}, `(strip | pass) > val ""`: cut, `(strip > cells 1 | pass) > val "y"`: {cells[2]}, `(val "y" | strip) > val ""`: {cut[0], cut[1], cut[3]},
		`if(strip > val "x", pass, block)`: nil, `if(strip > val "", pass, block)`: cells, `strip > if(val "x", pass, block)`: nil, `strip > if(val "x", block, pass)`: cut, `if(val "y", strip, pass)`: {cut[0], cut[1], cut[2], cells[3]},
	} {
		for _, hints := range []bool{true, false} {
			got := impl.RunCode(impl.Compile(parsed(t, text)), cells, hints)
			wantCells(t, text, got.Cells, want)
		}
	}
}

func TestRunConditions(t *testing.T) {
	cells := ladder()
	for text, told := range map[string][]int{
		// The condition holds for the whole row, though a later cell makes it so.
		`if(val "y", pass, block)`: {0, 1, 2, 3, 4}, `if(fam "g", cells 1, skip 1)`: {0}, `if(fam "g", block, pass)`: {5, 6}, `if(skip 4, pass, block)`: {0, 1, 2, 3, 4}, `if(skip 5, pass, block)`: nil, `if(cells 1 > val "y", pass, block)`: nil, `if(versions 1 > val "y", pass, block)`: nil, `skip 1 > if(val "x" > cells 1, versions 1, block)`: {1, 2, 3, 4}, `skip 1 > if(cells 1 > val "y", cells 1, pass)`: {1},
		`if(qual "p", if(val "y", fam "g", block), row "e")`: {4, 6}, `if(if(val "y", fam "z", pass), pass, versions 1 > cells 2)`: {0, 2, 5, 6}, `if(block, pass, cells 1) | if(fam "g", qual "p", val "z")`: {0, 3, 5, 6}, `if(fam "g", skip 3, pass) > if(skip 1, cells 1, strip > val "" > block)`: {3},
		`if(block, pass, row "c")`: {5}, `if(pass, rows "c".., block)`: {5, 6},
	} {
		c := impl.Compile(parsed(t, text))
		for _, hints := range []bool{true, false} {
			got := impl.RunCode(c, cells, hints)
			wantCells(t, text, got.Cells, chosenCells(cells, told))
			if !got.Ok || got.Ops != int64(len(cells)) {
				t.Errorf("%s: ok %v with %d moves", text, got.Ok, got.Ops)
			}
		}
	}
	// A condition that nothing asks for is enough to go row by row.
	pass := codeBlock(0, passIns())
	block := codeBlock(0, leafIns(impl.Node{Kind: impl.NodeBlock}, 0, true))
	got := impl.RunCode(impl.Code{Conds: []impl.Block{pass}, Main: block}, cells, true)
	if !got.Ok || got.Ops != 7 || len(got.Cells) != 0 {
		t.Errorf("block behind a condition: %+v", got)
	}
	// A later condition asks for an earlier one, and Main for both.
	asks := func(a int64) impl.Block {
		return codeBlock(0, impl.Ins{Op: 5, A: a, B: 2}, impl.Ins{Op: 6, B: 3}, leafIns(impl.Node{Kind: impl.NodeBlock}, 0, false))
	}
	hasG := codeBlock(0, leafIns(impl.Node{Kind: impl.NodeFam, S: "g"}, 0, false))
	for a := range int64(3) {
		c := impl.Code{Conds: []impl.Block{hasG, asks(0), pass}, Main: asks(a)}
		want := cells[:5]
		if a == 2 {
			want = cells
		}
		wantCells(t, fmt.Sprint("asks ", a), impl.RunCode(c, cells, true).Cells, want)
	}
}

func TestRunNotValid(t *testing.T) {
	pass := impl.Compile(parsed(t, "pass"))
	branched := impl.Compile(parsed(t, "if(val \"x\", pass, block)"))
	for _, c := range []impl.Code{pass, branched} {
		for name, cells := range map[string][]impl.Cell{
			"out of order": {ladder()[1], ladder()[0]}, "one key twice": {ladder()[0], ladder()[0]}, "no row": cellsOf(put("", "f", "", 1, "")), "no family": cellsOf(put("r", "", "", 1, "")), "a long value": cellsOf(put("r", "f", "", 1, strings.Repeat("v", 201))), "a bad one last": append(ladder(), cellOf(put("f", "", "", 1, ""))), "RunMax + 1": cellsOf(manyPuts("r", impl.RunMax+1)...),
		} {
			for _, hints := range []bool{true, false} {
				if got := impl.RunCode(c, cells, hints); !isZeroScan(got) {
					t.Errorf("%s: %+v", name, got)
				}
			}
		}
		for _, hints := range []bool{true, false} {
			if got := impl.RunCode(c, nil, hints); !got.Ok || got.Ops != 0 || len(got.Cells) != 0 {
				t.Errorf("no cells: %+v", got)
			}
		}
	}
	if got := impl.RunCode(impl.Code{}, nil, true); !isZeroScan(got) {
		t.Errorf("no code and no cells: %+v", got)
	}
	if got := impl.RunCode(impl.Code{}, []impl.Cell{ladder()[1], ladder()[0]}, true); !isZeroScan(got) {
		t.Errorf("neither: %+v", got)
	}
}

// seekingLeaves sets the patterns of rows and qualifiers to such as have a prefix.
func seekingLeaves(d *dice, t *tree) {
	for _, k := range t.kids {
		seekingLeaves(d, k)
	}
	if t.is(4) || t.is(6) {
		t.node.S = pick(d, []string{"a", "ab", "b", "ab.*", "a.+", "aa", "b.", "ba*", "abb", "\\a.*", "c", "", ".b", "a|b"})
	}
}

// wantRun holds the code of a filter against its meaning.
func wantRun(t *testing.T, m *vmModel, tr *tree, cells []impl.Cell) impl.ScanRes {
	t.Helper()
	c := impl.Compile(tr.filter())
	want := m.meaning(tr, cells)
	jumping, plain := impl.RunCode(c, cells, true), impl.RunCode(c, cells, false)
	wantCells(t, tr.print()+" with hints", jumping.Cells, want)
	wantCells(t, tr.print()+" without hints", plain.Cells, want)
	wantCells(t, tr.print()+" by its meaning", impl.Meaning(tr.filter(), cells), want)
	if !plain.Ok || plain.Ops != int64(len(cells)) {
		t.Errorf("%s: without hints ok %v with %d moves over %d cells", tr.print(), plain.Ok, plain.Ops, len(cells))
	}
	if !jumping.Ok || jumping.Ops > plain.Ops || len(c.Conds) > 0 && jumping.Ops != plain.Ops {
		t.Errorf("%s: with hints ok %v with %d moves over %d cells", tr.print(), jumping.Ok, jumping.Ops, len(cells))
	}
	if model := m.run(c, cells, true); !sameScan(jumping, model) {
		t.Errorf("%s: %d moves, want %d", tr.print(), jumping.Ops, model.Ops)
	}
	if t.Failed() {
		t.FailNow()
	}
	return jumping
}

func TestRunDrawn(t *testing.T) {
	d := &dice{state: 603}
	m := newVMModel()
	jumps, conds, both := 0, 0, 0
	for i := range 12000 {
		tr := drawTree(d, 1+d.roll(8), "ab")
		if i%2 == 0 {
			seekingLeaves(d, tr)
		}
		cells := drawCells(d, d.roll(40))
		if !modelValid(tr.filter()) {
			continue
		}
		got := wantRun(t, m, tr, cells)
		if got.Ops < int64(len(cells)) {
			jumps++
		}
		if len(modelCompile(tr).Conds) > 0 {
			conds++
		}
		if len(got.Cells) > 0 && got.Ops < int64(len(cells)) {
			both++
		}
	}
	if jumps < 1000 || conds < 1000 || both < 500 {
		t.Errorf("%d with jumps, %d with conditions, %d with jumps and cells", jumps, conds, both)
	}
}

func TestRunEverySmallFilter(t *testing.T) {
	m := newVMModel()
	cells := cellsOf(put("a", "f", "a", 3, "x"), put("a", "f", "a", 2, "y"), put("a", "f", "b", 3, ""), put("a", "g", "a", 3, "x"), put("ab", "f", "a", 3, "y"), put("ab", "f", "a", 2, "x"), put("b", "f", "b", 1, "x"))
	var leaves []*tree
	for _, text := range []string{"pass", "block", "strip", `row "ab"`, `fam "g"`, `qual "b"`, `val "x"`, `rows "ab"..`, `quals "b"..`, "ts 3..", "versions 1", "cells 1", "skip 1", "cells 2"} {
		leaves = append(leaves, modelTree(parsed(t, text).Nodes))
	}
	for i, a := range leaves {
		for j, b := range leaves {
			wantRun(t, m, chained(a, b), cells)
			wantRun(t, m, united(a, b), cells)
			for k, c := range leaves {
				wantRun(t, m, chained(united(a, b), c), cells)
				wantRun(t, m, united(a, chained(b, c)), cells)
				wantRun(t, m, united(chained(a, b), c), cells)
				if (i+j+k)%3 == 0 {
					wantRun(t, m, chained(a, united(b, c)), cells)
					wantRun(t, m, chosen(a, b, c), cells)
					wantRun(t, m, chained(b, chosen(a, c, b)), cells)
				}
			}
		}
	}
}

// Code that Compile does not make: flags, counters and leaves changed, instructions put in and taken out.
func TestRunChangedCode(t *testing.T) {
	d := &dice{state: 604}
	m := newVMModel()
	valid := 0
	for i := range 40000 {
		tr := drawTree(d, 1+d.roll(6), "ab")
		seekingLeaves(d, tr)
		c := changedCode(d, modelCompile(tr))
		if i%3 == 0 {
			shareCounters(d, c)
		}
		if !modelValidCode(c) {
			continue
		}
		valid++
		cells := drawCells(d, d.roll(30))
		for _, hints := range []bool{true, false} {
			if got, want := impl.RunCode(c, cells, hints), m.run(c, cells, hints); !sameScan(got, want) {
				t.Fatalf("hints %v, %s\ngot  %+v\nwant %+v", hints, codeText(c), got, want)
			}
		}
	}
	if valid < 5000 {
		t.Errorf("%d were valid", valid)
	}
}

func shareCounters(d *dice, c impl.Code) {
	for _, b := range append(slices.Clone(c.Conds), c.Main) {
		for k := range b.Ins {
			if b.Ins[k].Leaf.Kind >= 11 {
				b.Ins[k].A = int64(d.roll(int(max(1, b.Counters))))
			}
		}
	}
}

func TestRunManyCells(t *testing.T) {
	cells := cellsOf(manyPuts("r", impl.RunMax)...)
	for text, want := range map[string]int64{"pass": impl.RunMax, "block": 1, "cells 1000 > block": impl.RunMax, `row "q.*"`: 1} {
		got := impl.RunCode(impl.Compile(parsed(t, text)), cells, true)
		if !got.Ok || got.Ops != want {
			t.Errorf("%s: ok %v with %d moves", text, got.Ok, got.Ops)
		}
	}
	ifs := impl.Compile(parsed(t, strings.Join(slices.Repeat([]string{`if(val "x.*y", cells 1000, pass)`}, 40), " > ")))
	got := impl.RunCode(ifs, cells, true)
	if !got.Ok || got.Ops != impl.RunMax {
		t.Errorf("40 ifs: ok %v with %d moves", got.Ok, got.Ops)
	}
	wantCells(t, "40 ifs", got.Cells, cells)
}

// spoilCode writes over all that the lists of c may hold.
func spoilCode(c impl.Code) {
	for _, b := range append(slices.Clone(c.Conds), c.Main) {
		spoilIns(b.Ins)
	}
	conds := c.Conds[:cap(c.Conds)]
	for k := range conds {
		conds[k] = codeBlock(99)
	}
}

func spoilIns(ins []impl.Ins) {
	ins = ins[:cap(ins)]
	for k := range ins {
		ins[k] = impl.Ins{Op: 99}
	}
}

// roomy lays code into memory with room behind each list, so that an append into an argument is seen.
func roomy(c impl.Code) impl.Code {
	guard := impl.Ins{Op: 77, A: 77}
	widen := func(b impl.Block) impl.Block {
		b.Ins = append(slices.Clone(b.Ins), guard, guard)[:len(b.Ins)]
		return b
	}
	wide := impl.Code{Main: widen(c.Main)}
	for _, b := range c.Conds {
		wide.Conds = append(wide.Conds, widen(b))
	}
	wide.Conds = append(wide.Conds, codeBlock(77), codeBlock(77))[:len(c.Conds)]
	return wide
}

// wholeCode has the room behind the lists too.
func wholeCode(c impl.Code) impl.Code {
	all := impl.Code{Main: impl.Block{Ins: c.Main.Ins[:cap(c.Main.Ins)], Counters: c.Main.Counters}}
	for _, b := range c.Conds[:cap(c.Conds)] {
		all.Conds = append(all.Conds, impl.Block{Ins: b.Ins[:cap(b.Ins)], Counters: b.Counters})
	}
	return all
}

func TestCodeArgumentsAreNotTouched(t *testing.T) {
	d := &dice{state: 605}
	for range 300 {
		tr := drawTree(d, 1+d.roll(8), "ab")
		nodes := append(tr.postfix(), impl.Node{Kind: 7, S: "guard"}, impl.Node{Kind: 8, S: "guard"})
		f := impl.Filter{Nodes: nodes[:len(nodes)-2]}
		cells := append(drawCells(d, 20), cellOf(put("guard", "g", "g", 1, "g")), cellOf(put("guard", "g", "g", 0, "g")))
		some := cells[:len(cells)-2]
		code := roomy(modelCompile(tr))
		nodesBefore, cellsBefore, codeBefore := slices.Clone(nodes), slices.Clone(cells), cloneCode(wholeCode(code))
		spoilCode(impl.Compile(f))
		impl.ValidCode(code)
		spoilCells(impl.RunCode(code, some, true).Cells)
		spoilCells(impl.RunCode(code, some, false).Cells)
		if !slices.Equal(nodes, nodesBefore) || !slices.Equal(cells, cellsBefore) || !sameCode(wholeCode(code), codeBefore) {
			t.Fatalf("%s: an argument was changed, or an answer shares its memory", tr.print())
		}
	}
}

func TestCodeListsAreApart(t *testing.T) {
	d := &dice{state: 606}
	for range 300 {
		tr := drawTree(d, 4+d.roll(8), "ab")
		if !modelValid(tr.filter()) {
			continue
		}
		want := modelCompile(tr)
		for k := range want.Conds {
			got := impl.Compile(tr.filter())
			spoilIns(got.Conds[k].Ins)
			got.Conds[k] = want.Conds[k]
			if !sameCode(got, want) {
				t.Fatalf("%s: condition %d shares memory with another block", tr.print(), k)
			}
		}
		got := impl.Compile(tr.filter())
		spoilIns(got.Main.Ins)
		got.Main = want.Main
		if !sameCode(got, want) {
			t.Fatalf("%s: Main shares memory with a condition", tr.print())
		}
		wantCompiled(t, tr)
	}
}
