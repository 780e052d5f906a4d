package tests

import (
	"math/rand"
	"slices"
	"testing"

	"loop.example/telltale/impl"
)

// some32 is a value of 32 bits, often a small one or one at an edge.
func some32(r *rand.Rand) int {
	if r.Intn(2) == 0 {
		return r.Intn(7) - 3
	}
	return wrap32(someValue(r))
}

func some32s(r *rand.Rand, size int) []int {
	out := make([]int, size)
	for i := range out {
		out[i] = some32(r)
	}
	return out
}

// someInst is any way a block can be.
func someInst(r *rand.Rand, b impl.Block) impl.Inst {
	return impl.Inst{State: r.Intn(len(b.States)), Vals: some32s(r, len(wantNames(b)))}
}

func TestP11NewBlocks(t *testing.T) {
	texts := map[string][]int{
		gateText:             {0, 0, 0, 3},
		fullText:             {0, 0, 0, 0, 0, 0, 0, 0, 0, 0, 0, 0, -999999, 999999, 0, 5},
		"block a\nstate b\n": {},
		"block a\nvar x -7\nvar y 9\nstate b\nset x 1\nstate c\n": {-7, 9},
		"block a\nin e x\nout o y\nstate b\n":                     {0, 0},
	}
	for text, want := range texts {
		x := impl.InstNew(mustBlock(text))
		if x.State != 0 || !slices.Equal(x.Vals, want) || !impl.InstOk(mustBlock(text), x) {
			t.Errorf("%v, not %v", x, want)
		}
	}
}

func TestP11NewBlocksAsPromised(t *testing.T) {
	r := rand.New(rand.NewSource(11))
	for range 2000 {
		b := someBlock(r)
		given := copyOf(b)
		x := impl.InstNew(given)
		own := len(wantNames(b)) - len(b.Vars)
		want := impl.Inst{Vals: make([]int, own)}
		for _, v := range b.Vars {
			want.Vals = append(want.Vals, v.Num)
		}
		if !same(x, want) || !impl.InstOk(b, x) {
			t.Fatalf("%v, not %v", x, want)
		}
		if !same(given, b) || !roomIsEmpty(given) || !areApart(given, x) {
			t.Fatal("an argument was written, or memory is shared")
		}
	}
}

func TestP11WhatABlockCanBe(t *testing.T) {
	b := mustBlock(gateText)
	cases := []struct {
		x    impl.Inst
		want bool
	}{
		{impl.Inst{State: 0, Vals: []int{0, 0, 0, 3}}, true},
		{impl.Inst{State: 3, Vals: []int{1, 2, 3, 4}}, true},
		{impl.Inst{State: 4, Vals: []int{1, 2, 3, 4}}, false},
		{impl.Inst{State: -1, Vals: []int{1, 2, 3, 4}}, false},
		{impl.Inst{State: 1 << 40, Vals: []int{1, 2, 3, 4}}, false},
		{impl.Inst{State: 0, Vals: []int{1, 2, 3}}, false},
		{impl.Inst{State: 0, Vals: []int{1, 2, 3, 4, 5}}, false},
		{impl.Inst{}, false},
		{impl.Inst{State: 0, Vals: []int{highest, lowest, highest, lowest}}, true},
		{impl.Inst{State: 0, Vals: []int{highest + 1, 0, 0, 0}}, false},
		{impl.Inst{State: 0, Vals: []int{0, 0, 0, highest + 1}}, false},
		{impl.Inst{State: 0, Vals: []int{0, lowest - 1, 0, 0}}, false},
		{impl.Inst{State: 0, Vals: []int{0, 0, 1 << 32, 0}}, false},
		{impl.Inst{State: 0, Vals: []int{0, 0, 0, 1000000}}, true},
	}
	for _, c := range cases {
		if impl.InstOk(b, c.x) != c.want {
			t.Errorf("%v: not %v", c.x, c.want)
		}
		if y, told := impl.InstStep(b, c.x, 1, nil); !c.want && (!same(y, impl.Inst{}) || len(told) > 0) {
			t.Errorf("%v: %v %v", c.x, y, told)
		} else if c.want && !impl.InstOk(b, y) {
			t.Errorf("%v: %v", c.x, y)
		}
	}
	if !impl.InstOk(mustBlock("block a\nstate b\n"), impl.Inst{}) {
		t.Error("nothing is ok of a block without values")
	}
}

type stepCase struct {
	text  string
	x     impl.Inst
	in    int
	vals  []int
	state int
	after []int
	told  []impl.Tell
}

func inst(state int, vals ...int) impl.Inst { return impl.Inst{State: state, Vals: vals} }

func tell(out int, vals ...int) impl.Tell { return impl.Tell{Out: out, Vals: vals} }

func TestP12Steps(t *testing.T) {
	two := "block a\nin e x\nin f\nout o y\nout p\nvar c 0\n"
	cases := []stepCase{
		{gateText, inst(0, 0, 0, 0, 3), 0, []int{2}, 0, []int{2, 4, 0, 2}, []impl.Tell{tell(0, 4, 0), tell(0, 4, 0)}},
		{gateText, inst(0, 0, 0, 7, 3), 0, []int{3}, 2, []int{3, 0, 7, 3}, []impl.Tell{tell(1)}},
		{gateText, inst(0, 5, 6, 7, 0), 0, []int{3}, 0, []int{3, 6, 7, 0}, []impl.Tell{tell(1)}},
		{gateText, inst(0, 5, 6, 7, 3), 1, nil, 3, []int{5, 6, 7, 3}, nil},
		{gateText, inst(3, 5, 6, 7, 3), 1, nil, 3, []int{5, 6, 7, 3}, nil},
		{gateText, inst(3, 5, 6, 7, 3), 0, []int{lowest}, 3, []int{lowest, 6, 7, 3}, nil},
		// A block that stands in a state with a move without an event goes on by whatever comes.
		{gateText, inst(1, 5, 6, 7, 3), 1, nil, 0, []int{5, 6, 7, 3}, nil},
		{gateText, inst(1, 5, 6, 7, 3), 0, []int{1}, 0, []int{1, 6, 7, 3}, nil},
		{gateText, inst(2, 5, 6, 7, 0), 0, []int{1}, 0, []int{1, 6, 7, 0}, nil},
		{gateText, inst(2, 5, 6, 7, 1), 0, []int{1}, 2, []int{1, 6, 7, 1}, nil},
		// The first move that can be is taken, also if a later one is of that event.
		{two + "state s\non - t 1\non e u 1\nstate t\nset c 1\nstate u\nset c 2\n", inst(0, 0, 0, 0), 0, []int{4}, 1, []int{4, 0, 1}, nil},
		{two + "state s\non e u 1\non - t 1\nstate t\nset c 1\nstate u\nset c 2\n", inst(0, 0, 0, 0), 0, []int{4}, 2, []int{4, 0, 2}, nil},
		{two + "state s\non e u 0\non f u 1\non e t -1\nstate t\nset c 1\nstate u\nset c 2\n", inst(0, 0, 0, 0), 0, []int{4}, 1, []int{4, 0, 1}, nil},
		{two + "state s\non e u x\non f u 1\nstate t\nset c 1\nstate u\nset c 2\n", inst(0, 9, 0, 0), 0, []int{0}, 0, []int{0, 0, 0}, nil},
		// An event is taken once: behind the first move only those without one go on.
		{two + "state s\non e t 1\nstate t\non e u 1\nset c c+1\nstate u\nset c c+10\n", inst(0, 0, 0, 0), 0, []int{4}, 1, []int{4, 0, 1}, nil},
		{two + "state s\non - t 1\nstate t\non e u 1\nset c c+1\nstate u\nset c c+10\n", inst(0, 0, 0, 0), 0, []int{4}, 1, []int{4, 0, 1}, nil},
		{two + "state s\non e s 1\nset c c+1\ntell o\n", inst(0, 0, 0, 0), 0, []int{4}, 0, []int{4, 0, 1}, []impl.Tell{tell(0, 0)}},
		// Whens behind acts see what the acts left; what is told is what values are then.
		{two + "state s\non e t 1\nstate t\non - u c==x\nset c x\ntell o\nset y c+1\ntell o\nstate u\nset y 0\ntell p\ntell o\n", inst(0, 0, 8, 0), 0, []int{4}, 2, []int{4, 0, 4}, []impl.Tell{tell(0, 8), tell(0, 5), tell(1), tell(0, 0)}},
		// Acts of the state in which a block is are not done again, nor those of the one it leaves.
		{two + "state s\non e t 1\nset c 100\ntell p\nstate t\nset y 1\n", inst(0, 0, 0, 0), 0, []int{4}, 1, []int{4, 1, 0}, nil},
		{two + "state s\nset c 100\ntell p\nstate t\nset y 1\n", inst(0, 0, 0, 0), 0, []int{4}, 0, []int{4, 0, 0}, nil},
		// 32 bits, wrapped.
		{two + "state s\non e s 1\nset c c+x\nset y -x-2\ntell o\n", inst(0, 0, 0, highest), 0, []int{1}, 0, []int{1, -3, lowest}, []impl.Tell{tell(0, -3)}},
		{two + "state s\non e s 1\nset c c*c\nset y -x\ntell o\n", inst(0, 0, 0, 65536), 0, []int{lowest}, 0, []int{lowest, lowest, 0}, []impl.Tell{tell(0, lowest)}},
		{two + "state s\non e s x/c==0\nset c x/c\n", inst(0, 0, 0, 0), 0, []int{highest}, 0, []int{highest, 0, 0}, nil},
	}
	for _, c := range cases {
		b := mustBlock(c.text)
		y, told := impl.InstStep(b, c.x, c.in, c.vals)
		if y.State != c.state || !slices.Equal(y.Vals, c.after) || !same(told, c.told) {
			t.Errorf("%v %d %v: %v %v, not %d %v %v\n%s", c.x, c.in, c.vals, y, told, c.state, c.after, c.told, c.text)
		}
	}
}

func TestP12ValuesOfSeveralEvents(t *testing.T) {
	b := mustBlock("block a\nin e x,y,z\nin f z,x\nout o r,q\nout p q\nstate s\non e s 1\nset q x*100+y*10+z\nset r q+1\ntell o\ntell p\n")
	y, told := impl.InstStep(b, inst(0, 0, 0, 0, 0, 0), 1, []int{7, 8})
	if !same(y, inst(0, 8, 0, 7, 0, 0)) || len(told) > 0 {
		t.Error(y, told)
	}
	y, told = impl.InstStep(b, y, 0, []int{1, 2, 3})
	if !same(y, inst(0, 1, 2, 3, 124, 123)) || !same(told, []impl.Tell{tell(0, 124, 123), tell(1, 123)}) {
		t.Error(y, told)
	}
}

func TestP12StepsThatAreNone(t *testing.T) {
	b := mustBlock(gateText)
	x := impl.InstNew(b)
	cases := []struct {
		x    impl.Inst
		in   int
		vals []int
	}{
		{x, 0, nil}, {x, 0, []int{}}, {x, 0, []int{1, 2}}, {x, 1, []int{0}}, {x, 2, nil}, {x, 2, []int{1}}, {x, -1, nil}, {x, -1, []int{1}}, {x, 1 << 40, nil},
		{x, 0, []int{highest + 1}}, {x, 0, []int{lowest - 1}}, {x, 0, []int{1 << 32}}, {x, 0, []int{1<<63 - 1}},
		{impl.Inst{}, 0, []int{1}}, {inst(4, 0, 0, 0, 0), 0, []int{1}}, {inst(-1, 0, 0, 0, 0), 1, nil}, {inst(0, 0, 0, 0), 1, nil}, {inst(0, 0, 0, 0, highest+1), 1, nil},
	}
	for _, c := range cases {
		if y, told := impl.InstStep(b, c.x, c.in, c.vals); !same(y, impl.Inst{}) || len(told) > 0 {
			t.Errorf("%v %d %v: %v %v", c.x, c.in, c.vals, y, told)
		}
	}
	for _, v := range []int{lowest, highest} {
		if y, _ := impl.InstStep(b, x, 0, []int{v}); !impl.InstOk(b, y) || y.Vals[0] != v {
			t.Errorf("%d: %v", v, y)
		}
	}
	lone := mustBlock("block a\nstate b\n")
	if y, told := impl.InstStep(lone, impl.InstNew(lone), 0, nil); !same(y, impl.Inst{}) || len(told) > 0 {
		t.Error(y, told)
	}
}

func TestP12StepsAsPromised(t *testing.T) {
	t.Parallel()
	r := rand.New(rand.NewSource(12))
	moved, most := 0, 0
	for range 4000 {
		b := someBlock(r)
		x := impl.InstNew(b)
		if r.Intn(2) == 0 {
			x = someInst(r, b)
		}
		for range 4 {
			if len(b.Ins) == 0 {
				break
			}
			in := r.Intn(len(b.Ins))
			vals := some32s(r, len(b.Ins[in].Vals))
			givenBlock, givenInst, givenVals := copyOf(b), copyOf(x), copyOf(vals)
			y, told := impl.InstStep(givenBlock, givenInst, in, givenVals)
			wantInst, wantTold := wantStep(b, x, in, vals)
			if !same(y, wantInst) || !same(told, wantTold) {
				t.Fatalf("%v %v, not %v %v, from %v by %d %v\n%s", y, told, wantInst, wantTold, x, in, vals, wantText(b))
			}
			if !same(givenBlock, b) || !same(givenInst, x) || !same(givenVals, vals) || !roomIsEmpty(givenBlock) || !roomIsEmpty(givenInst) || !roomIsEmpty(givenVals) {
				t.Fatal("an argument was written")
			}
			if !areApart(givenBlock, givenInst, givenVals, y, told) {
				t.Fatal("memory is shared")
			}
			keepsPromise12(t, b, y, in, vals, told)
			moved += bit(y.State != x.State)
			most = max(most, len(told))
			x = y
		}
	}
	if moved < 1000 || most < 8 {
		t.Errorf("%d moved, %d were told at most", moved, most)
	}
}

func keepsPromise12(t *testing.T, b impl.Block, y impl.Inst, in int, vals []int, told []impl.Tell) {
	t.Helper()
	if !impl.InstOk(b, y) {
		t.Fatalf("not ok: %v", y)
	}
	names := impl.BlockNames(b)
	for i, name := range b.Ins[in].Vals {
		if y.Vals[slices.Index(names, name)] != vals[i] {
			t.Fatalf("%s did not come: %v", name, y)
		}
	}
	times := make([]int, len(b.Outs))
	for _, x := range told {
		times[x.Out]++
		if len(x.Vals) != len(b.Outs[x.Out].Vals) {
			t.Fatalf("told with %v", x.Vals)
		}
	}
	for out, n := range times {
		if n > impl.BlockMost(b, b.Outs[out].Name) {
			t.Fatalf("%s is told %d times\n%s", b.Outs[out].Name, n, wantText(b))
		}
	}
}

func TestP13EventsWithoutAMove(t *testing.T) {
	r := rand.New(rand.NewSource(13))
	for range 3000 {
		b := someBlock(r)
		b.States = []impl.State{{Name: "s", Acts: b.States[0].Acts}}
		x := someInst(r, b)
		names := wantNames(b)
		for in, p := range b.Ins {
			vals := some32s(r, len(p.Vals))
			want := slices.Clone(x.Vals)
			for i, name := range p.Vals {
				want[slices.Index(names, name)] = vals[i]
			}
			y, told := impl.InstStep(b, x, in, vals)
			if len(told) > 0 || y.State != 0 || !slices.Equal(y.Vals, want) {
				t.Fatalf("%v %v, not %v", y, told, want)
			}
		}
	}
}

// TestP13MovesThatCannotBe has moves, but of other events, or with a When that is 0.
func TestP13MovesThatCannotBe(t *testing.T) {
	head := "block a\nin e x,y\nin f z\nout o q\nvar c 5\nstate s\n"
	for _, moves := range []string{"", "on f t 1\n", "on e t 0\n", "on - t 0\n", "on e t x==y\non f t 1\non - t c==4\n", "on e t c<x&0\n"} {
		b := mustBlock(head + moves + "tell o\nset c 1\nstate t\ntell o\nset c 2\n")
		y, told := impl.InstStep(b, inst(0, 1, 2, 3, 4, 5), 0, []int{8, 9})
		if len(told) > 0 || !same(y, inst(0, 8, 9, 3, 4, 5)) {
			t.Errorf("%q: %v %v", moves, y, told)
		}
	}
}
