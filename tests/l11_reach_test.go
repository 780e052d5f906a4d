package tests

import (
	"fmt"
	"math/rand"
	"slices"
	"strings"
	"testing"

	"loop.example/telltale/impl"
)

// movesLead says whether moves lead from a state to another one, in at most so many.
func movesLead(b impl.Block, from, to, steps int) bool {
	if steps == 0 {
		return false
	}
	return slices.ContainsFunc(b.States[from].Moves, func(m impl.Move) bool {
		at := stateOf(b, m.To)
		return at == to || movesLead(b, at, to, steps-1)
	})
}

// wantReach is the places that the document asks for.
func wantReach(b impl.Block) []int {
	out := []int{0}
	for at := 1; at < len(b.States); at++ {
		if movesLead(b, 0, at, len(b.States)) {
			out = append(out, at)
		}
	}
	return out
}

// wantNeeds is the names that the document asks for, by the words of the texts of sums.
func wantNeeds(b impl.Block) []string {
	var text []string
	for _, s := range b.States {
		for _, m := range s.Moves {
			text = append(text, m.When)
		}
		for _, a := range s.Acts {
			text = append(text, a.Sum)
		}
	}
	words := strings.FieldsFunc(strings.Join(text, " "), func(c rune) bool { return !strings.ContainsRune("abcdefghijklmnopqrstuvwxyz0123456789", c) })
	return slices.DeleteFunc(wantNames(b), func(name string) bool { return !slices.Contains(words, name) })
}

// wantCut is the block that the document asks for.
func wantCut(b impl.Block) impl.Block {
	out := copyOf(b)
	out.States = nil
	for _, at := range wantReach(b) {
		out.States = append(out.States, copyOf(b.States[at]))
	}
	return out
}

// keepsReach asks for what the document asks for of a block that is ok, and that nothing is written or shared.
func keepsReach(t *testing.T, b impl.Block) impl.Block {
	t.Helper()
	h := hand(b)
	of, needs, cut := impl.ReachOf(h.now), impl.ReachNeeds(h.now), impl.ReachCut(h.now)
	if !slices.Equal(of, wantReach(b)) {
		t.Fatalf("states %v, not %v\n%s", of, wantReach(b), wantText(b))
	}
	if !slices.Equal(needs, wantNeeds(b)) {
		t.Fatalf("needs %v, not %v\n%s", needs, wantNeeds(b), wantText(b))
	}
	if !same(cut, wantCut(b)) {
		t.Fatalf("cut %s, from %s", wantText(cut), wantText(b))
	}
	if !h.isUntouched() || !areApart(h.now, of, needs, cut) {
		t.Fatalf("an argument was written, or memory is shared\n%s", wantText(b))
	}
	return cut
}

// reachBlocks is blocks of which some, all or none of the states but the first can be come to.
func reachBlocks(r *rand.Rand, size int) []impl.Block {
	list := []impl.Block{mustBlock(gateText), mustBlock(fullText), mustBlock(countText), mustBlock(passText), mustBlock("block a\nstate b\n")}
	for len(list) < size {
		b := someBlock(r)
		if r.Intn(2) == 0 {
			b = someBusyBlock(r)
		}
		for range r.Intn(4) {
			s := &b.States[r.Intn(len(b.States))]
			s.Moves = s.Moves[:len(s.Moves)/2]
		}
		list = append(list, b)
	}
	return list
}

func TestP44StatesByHand(t *testing.T) {
	head := "block b\nin e x\nin f\nout o y\nvar c 0\n"
	cases := []struct {
		name, text string
		want       []int
	}{
		{"one state", "state a\n", []int{0}},
		{"one state that leads to itself", "state a\non e a 1\n", []int{0}},
		{"two states, and no moves", "state a\nstate b\n", []int{0}},
		{"a move", "state a\non e b 1\nstate b\n", []int{0, 1}},
		{"a move that can never be", "state a\non e b 0\nstate b\n", []int{0, 1}},
		{"a move behind one that always is", "state a\non e a 1\non e b 1\nstate b\n", []int{0, 1}},
		{"a move without an event", "state a\non - b 1\nstate b\n", []int{0, 1}},
		{"a move without an event that can never be", "state a\non - c 0\nstate b\nstate c\n", []int{0, 2}},
		{"a move back alone", "state a\nstate b\non e a 1\n", []int{0}},
		{"a ring that nothing leads to", "state a\nstate b\non e c 1\nstate c\non e b 1\nstate d\non f a 1\non f b 1\n", []int{0}},
		{"a ring of all", "state a\non e b 1\nstate b\non e c 1\nstate c\non e d 1\nstate d\non e e 1\nstate e\non e a 1\n", []int{0, 1, 2, 3, 4}},
		{"steps that go back in places", "state a\non e e 1\nstate b\nstate c\non e b 1\nstate d\non f c 1\nstate e\non f d 1\n", []int{0, 1, 2, 3, 4}},
		{"last first", "state a\non e e 1\nstate b\nstate c\nstate d\non f c 1\nstate e\non f b 1\n", []int{0, 1, 4}},
		{"four moves from one", "state a\non e e 1\non e d 1\non f c x\non - b c\nstate b\nstate c\nstate d\nstate e\n", []int{0, 1, 2, 3, 4}},
		{"two ways to one", "state a\non e b 1\non f c 1\nstate b\non e d 1\nstate c\non e d 1\nstate d\nstate e\non e d 1\n", []int{0, 1, 2, 3}},
		{"a state of its own that leads to itself", "state a\nstate b\non e b 1\n", []int{0}},
	}
	for _, c := range cases {
		b := mustBlock(head + c.text)
		if got := impl.ReachOf(b); !slices.Equal(got, c.want) {
			t.Errorf("%s: %v, not %v", c.name, got, c.want)
		}
		if cut := keepsReach(t, b); len(cut.States) != len(c.want) {
			t.Errorf("%s: %s", c.name, wantText(cut))
		}
	}
}

// TestP44StatesThatAreComeTo steps from the first state on, by whatever comes.
func TestP44StatesThatAreComeTo(t *testing.T) {
	r := rand.New(rand.NewSource(44))
	moved, never := 0, 0
	for _, b := range reachBlocks(r, 600) {
		of := impl.ReachOf(b)
		x := impl.InstNew(b)
		if !slices.Contains(of, x.State) || !slices.Contains(of, 0) {
			t.Fatalf("the first state is not in %v", of)
		}
		never += bit(len(of) < len(b.States))
		for range 25 {
			if len(b.Ins) == 0 {
				break
			}
			in := r.Intn(len(b.Ins))
			y, _ := impl.InstStep(b, x, in, some32s(r, len(b.Ins[in].Vals)))
			if !slices.Contains(of, y.State) {
				t.Fatalf("state %d is not in %v\n%s", y.State, of, wantText(b))
			}
			moved += bit(y.State != x.State)
			x = y
		}
	}
	if moved < 1000 || never < 100 {
		t.Errorf("%d moved, %d have states that nothing leads to", moved, never)
	}
}

func TestP45MovesOfStatesThatAreComeTo(t *testing.T) {
	r := rand.New(rand.NewSource(45))
	sizes := map[int]int{}
	for _, b := range reachBlocks(r, 2500) {
		keepsReach(t, b)
		of := impl.ReachOf(b)
		for i, at := range of {
			if i > 0 && of[i-1] >= at {
				t.Fatalf("%v is not ascending", of)
			}
			for _, m := range b.States[at].Moves {
				if !slices.Contains(of, stateOf(b, m.To)) {
					t.Fatalf("%s is not in %v\n%s", m.To, of, wantText(b))
				}
			}
		}
		sizes[len(of)]++
	}
	for size := 1; size <= impl.StateMax; size++ {
		if sizes[size] < 50 {
			t.Errorf("%d states only %d times", size, sizes[size])
		}
	}
}

// stepsAlike lets a block and its cut do the same from the same state on.
func stepsAlike(t *testing.T, r *rand.Rand, b, cut impl.Block, x, y impl.Inst) (impl.Inst, impl.Inst, int) {
	t.Helper()
	in := r.Intn(len(b.Ins))
	vals := some32s(r, len(b.Ins[in].Vals))
	xNext, told := impl.InstStep(b, x, in, vals)
	yNext, cutTold := impl.InstStep(cut, y, in, vals)
	if !same(told, cutTold) || !same(xNext.Vals, yNext.Vals) || len(cut.States) <= yNext.State || b.States[xNext.State].Name != cut.States[yNext.State].Name {
		t.Fatalf("%v %v, not %v %v\n%s", yNext, cutTold, xNext, told, wantText(b))
	}
	return xNext, yNext, len(told)
}

func TestP46CutBlocksDoTheSame(t *testing.T) {
	r := rand.New(rand.NewSource(46))
	told, less := 0, 0
	for _, b := range reachBlocks(r, 800) {
		cut := keepsReach(t, b)
		if impl.BlockCheck(cut) != impl.FormFine || len(cut.States) != len(impl.ReachOf(b)) || !same(impl.ReachCut(cut), cut) {
			t.Fatalf("%s, from %s", wantText(cut), wantText(b))
		}
		if !same(impl.InstNew(cut), impl.InstNew(b)) || !slices.Equal(impl.BlockNames(cut), impl.BlockNames(b)) {
			t.Fatalf("another one at first: %s, from %s", wantText(cut), wantText(b))
		}
		less += bit(len(cut.States) < len(b.States))
		if len(b.Ins) == 0 {
			continue
		}
		x, y := impl.InstNew(b), impl.InstNew(cut)
		for range 10 {
			var more int
			x, y, more = stepsAlike(t, r, b, cut, x, y)
			told += more
		}
		for place, at := range impl.ReachOf(b) {
			vals := some32s(r, len(wantNames(b)))
			stepsAlike(t, r, b, cut, impl.Inst{State: at, Vals: vals}, impl.Inst{State: place, Vals: vals})
		}
	}
	if told < 1000 || less < 150 {
		t.Errorf("%d were told, %d have less states", told, less)
	}
}

func TestP46CutByHand(t *testing.T) {
	b := mustBlock("block b\nin e x\nout o x1\nvar c 7\nstate a\non e d x<c\nset c c+1\nstate b\non e a 1\ntell o\nstate c\non e b 1\nstate d\non - a 1\nset x1 x*2\ntell o\nstate e\n")
	want := mustBlock("block b\nin e x\nout o x1\nvar c 7\nstate a\non e d x<c\nset c c+1\nstate d\non - a 1\nset x1 x*2\ntell o\n")
	if cut := impl.ReachCut(b); !same(cut, want) || !same(impl.ReachCut(want), want) {
		t.Errorf("%s", wantText(cut))
	}
	for _, text := range []string{gateText, fullText, countText, passText, "block a\nstate b\n"} {
		if b := mustBlock(text); !same(impl.ReachCut(b), b) {
			t.Errorf("%s", wantText(impl.ReachCut(b)))
		}
	}
}

func TestP47NeedsByHand(t *testing.T) {
	head := "block b\nin e x,x1\nin f x1,k\nout o y,z\nout p z,x2\nvar c 0\nvar c1 1\nvar d 2\n"
	cases := []struct {
		name, text string
		want       []string
	}{
		{"no sums", "state a\n", nil},
		{"numbers alone", "state a\non e a 1\nset c 12\nset y 3*4\n", nil},
		{"told alone", "state a\non e b 1\nstate b\ntell o\ntell p\n", nil},
		{"set alone", "state a\nset y 1\nset c 2\ntell o\n", nil},
		{"in a when", "state a\non e a x<3\n", []string{"x"}},
		{"in a sum", "state a\nset y x\n", []string{"x"}},
		{"in both", "state a\non e a c\nset c c+1\n", []string{"c"}},
		{"one in a when, one in a sum", "state a\non f b k==2\nstate b\nset d c1\n", []string{"k", "c1"}},
		{"in order of names, not of sums", "state a\non e b d\nset y c+z\nstate b\nset z k-x1\n", []string{"x1", "k", "z", "c", "d"}},
		{"told, and asked for", "state a\nset c y\ntell o\n", []string{"y"}},
		{"one that another one begins with", "state a\non e a x2\nset c c1\n", []string{"x2", "c1"}},
		{"of a move without an event", "state a\non - b x1\nstate b\n", []string{"x1"}},
		{"of a move that can never be", "state a\non e a 0&x\n", []string{"x"}},
		{"of a state that is never come to", "state a\nstate b\non e b x\nset y d\n", []string{"x", "d"}},
		{"within signs and parentheses", "state a\nset y -(x+1)*!(z|k)\n", []string{"x", "k", "z"}},
		{"times that cancel each other", "state a\nset y x-x\nset y c*0\n", []string{"x", "c"}},
		{"all", "state a\non e a x+x1+k+y+z+x2\nset c c+c1+d\n", []string{"x", "x1", "k", "y", "z", "x2", "c", "c1", "d"}},
	}
	for _, c := range cases {
		b := mustBlock(head + c.text)
		if got := impl.ReachNeeds(b); !slices.Equal(got, c.want) {
			t.Errorf("%s: %v, not %v", c.name, got, c.want)
		}
		keepsReach(t, b)
	}
	if got := impl.ReachNeeds(mustBlock("block x\nin c c\nout y y\nstate d\non c d 1\ntell y\n")); len(got) > 0 {
		t.Errorf("names of events and states: %v", got)
	}
}

// TestP47WhatIsNotAskedFor has other values of all names that are not asked for.
func TestP47WhatIsNotAskedFor(t *testing.T) {
	r := rand.New(rand.NewSource(47))
	others, told, moved := 0, 0, 0
	for _, b := range reachBlocks(r, 1500) {
		names, needs := wantNames(b), impl.ReachNeeds(b)
		if len(b.Ins) == 0 {
			continue
		}
		for range 4 {
			x := someInst(r, b)
			y := copyOf(x)
			for i, name := range names {
				if !slices.Contains(needs, name) {
					y.Vals[i] = some32(r)
				}
			}
			in := r.Intn(len(b.Ins))
			vals := some32s(r, len(b.Ins[in].Vals))
			yVals := slices.Clone(vals)
			for i, name := range b.Ins[in].Vals {
				if !slices.Contains(needs, name) {
					yVals[i] = some32(r)
				}
			}
			xNext, xTold := impl.InstStep(b, x, in, vals)
			yNext, yTold := impl.InstStep(b, y, in, yVals)
			outs := func(list []impl.Tell) string {
				text := ""
				for _, x := range list {
					text += fmt.Sprint(x.Out, " ")
				}
				return text
			}
			if xNext.State != yNext.State || outs(xTold) != outs(yTold) {
				t.Fatalf("%v %v, not %v %v; it needs %v\n%s", yNext, yTold, xNext, xTold, needs, wantText(b))
			}
			others += bit(!slices.Equal(x.Vals, y.Vals) || !slices.Equal(vals, yVals))
			told += len(xTold)
			moved += bit(xNext.State != x.State)
		}
	}
	if others < 1000 || told < 1000 || moved < 1000 {
		t.Errorf("%d others, %d told, %d moved", others, told, moved)
	}
}

// TestP47WhatIsAskedFor has for each name that is needed a block that goes elsewhere by it.
func TestP47WhatIsAskedFor(t *testing.T) {
	names := []string{"x", "y", "c"}
	for at, name := range names {
		for _, text := range []string{"on e b " + name + "\n", "on e c " + name + "\n"} {
			b := mustBlock("block b\nin e x\nout o y\nvar c 0\nstate a\n" + text + "state b\ntell o\nstate c\n")
			if got := impl.ReachNeeds(b); !slices.Equal(got, []string{name}) {
				t.Fatalf("%v, not %s", got, name)
			}
			vals := []int{0, 0, 0}
			x, _ := impl.InstStep(b, inst(0, vals...), 0, []int{0})
			vals[at] = 1
			y, _ := impl.InstStep(b, inst(0, vals...), 0, vals[:1])
			if x.State == y.State {
				t.Errorf("%s does not matter", name)
			}
		}
	}
}

func TestP44To47BlocksThatAreNotOk(t *testing.T) {
	for i, b := range []impl.Block{{}, {Name: "a"}, {States: []impl.State{{Name: "a"}}}, {Name: "A", States: []impl.State{{Name: "a"}}}} {
		nothingOfBlock(t, fmt.Sprint(i), b)
	}
	turns := []func(b *impl.Block){
		func(b *impl.Block) { b.Name = "" },
		func(b *impl.Block) { b.States[0].Moves[0].To = "none" },
		func(b *impl.Block) { b.States[3].Moves = []impl.Move{{Event: "none", When: "1", To: "open"}} },
		func(b *impl.Block) { b.States[1].Acts[0].Sum = "q" },
		func(b *impl.Block) { b.States[1].Moves[0].When = "x < 1" },
		func(b *impl.Block) { b.States[2].Moves[0].To = "no" },
		func(b *impl.Block) { b.States = append(b.States, b.States[1]) },
	}
	for i, turn := range turns {
		b := mustBlock(gateText)
		turn(&b)
		nothingOfBlock(t, fmt.Sprint("turn ", i), b)
	}
}
