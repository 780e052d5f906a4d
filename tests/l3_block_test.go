package tests

import (
	"fmt"
	"math/rand"
	"slices"
	"strings"
	"testing"

	"loop.example/telltale/impl"
)

const (
	gateText = "block gate\nin val x\nin stop\nout pass y,x2\nout drop\nvar c 3\nstate open\non val fwd x<c\non val no 1\non stop shut 1\nstate fwd\non - open 1\nset y x*2\ntell pass\nset c c-1\ntell pass\nstate no\non - open c==0\ntell drop\nstate shut\n"
	// fullText meets each limit of counts at once: three events each way, sixteen values, four vars, five states, four moves and acts.
	fullText = "block zzzzzz\nin i1 a,b,c\nin i2 d,e,f\nin i3 a,d,g\nout o1 h,j,k\nout o2 l,m,h\nout o3\nvar v1 -999999\nvar v2 999999\nvar v3 0\nvar v4 5\nstate s1\non i1 s1 1\non i2 s2 a<v1\non i3 s3 g\non - s5 0\nset v1 v1+1\nset h a\ntell o1\ntell o2\nstate s2\non - s3 1\nstate s3\non - s4 1\nstate s4\non - s5 1\nstate s5\n"
)

type blockCase struct {
	name string
	turn func(b *impl.Block)
	want int
}

// runBlockCases turns a block that is ok, case by case, and holds all that is asked of a wrong block against the code.
func runBlockCases(t *testing.T, text string, list []blockCase) {
	t.Helper()
	for _, c := range list {
		b := mustBlock(text)
		c.turn(&b)
		if got := impl.BlockCheck(b); got != c.want || got != wantCheck(b) {
			t.Errorf("%s: %d, not %d (%d)", c.name, got, c.want, wantCheck(b))
		}
		if c.want != impl.FormFine {
			nothingOfBlock(t, c.name, b)
		} else if back, ok := impl.BlockGet(impl.BlockPut(b)); !ok || !same(back, b) {
			t.Errorf("%s: not read back", c.name)
		}
	}
}

// nothingOfBlock asks all functions for the one answer that a block has that is not ok.
func nothingOfBlock(t *testing.T, name string, b impl.Block) {
	t.Helper()
	if s := impl.BlockPut(b); s != "" {
		t.Errorf("%s: written: %q", name, s)
	}
	if names := impl.BlockNames(b); len(names) > 0 {
		t.Errorf("%s: names: %v", name, names)
	}
	for _, p := range b.Outs {
		if most := impl.BlockMost(b, p.Name); most != -1 {
			t.Errorf("%s: most: %d", name, most)
		}
	}
	if x := impl.InstNew(b); !same(x, impl.Inst{}) {
		t.Errorf("%s: new: %v", name, x)
	}
	x := impl.Inst{Vals: make([]int, len(wantNames(b)))}
	if impl.InstOk(b, x) || impl.InstOk(b, impl.Inst{}) {
		t.Errorf("%s: ok", name)
	}
	for in, p := range b.Ins {
		if y, told := impl.InstStep(b, x, in, make([]int, len(p.Vals))); !same(y, impl.Inst{}) || len(told) > 0 {
			t.Errorf("%s: step: %v %v", name, y, told)
		}
	}
	if of, needs := impl.ReachOf(b), impl.ReachNeeds(b); len(of) > 0 || len(needs) > 0 {
		t.Errorf("%s: reach: %v %v", name, of, needs)
	}
	if cut := impl.ReachCut(b); !same(cut, impl.Block{}) {
		t.Errorf("%s: cut: %v", name, cut)
	}
}

func TestP10NamesOfABlock(t *testing.T) {
	runBlockCases(t, gateText, []blockCase{
		{"as it is", func(b *impl.Block) {}, impl.FormFine},
		{"name empty", func(b *impl.Block) { b.Name = "" }, impl.FormName},
		{"name of a figure", func(b *impl.Block) { b.Name = "1" }, impl.FormName},
		{"name of six", func(b *impl.Block) { b.Name = "abcde6" }, impl.FormFine},
		{"name of seven", func(b *impl.Block) { b.Name = "abcdef7" }, impl.FormName},
		{"name great", func(b *impl.Block) { b.Name = "Gate" }, impl.FormName},
		{"name like a value", func(b *impl.Block) { b.Name = "x" }, impl.FormFine},
		{"in without a name", func(b *impl.Block) { b.Ins[1].Name = "" }, impl.FormName},
		{"in that is a sign", func(b *impl.Block) { b.Ins[1].Name = "-" }, impl.FormName},
		{"in with a blank", func(b *impl.Block) { b.Ins[1].Name = "st p" }, impl.FormName},
		{"two ins of one name", func(b *impl.Block) { b.Ins[1].Name = "val" }, impl.FormName},
		{"out without a name", func(b *impl.Block) { b.Outs[0].Name = "a\n" }, impl.FormName},
		{"two outs of one name", func(b *impl.Block) { b.Outs[1].Name = "pass" }, impl.FormName},
		{"an in and an out of one name", func(b *impl.Block) { b.Outs = append(b.Outs, impl.Port{Name: "val"}) }, impl.FormFine},
		{"value of an in without a name", func(b *impl.Block) { b.Ins[1].Vals = []string{""} }, impl.FormName},
		{"value of an in twice", func(b *impl.Block) { b.Ins[1].Vals = []string{"k", "l", "k"} }, impl.FormName},
		{"value of two ins", func(b *impl.Block) { b.Ins[1].Vals = []string{"k", "x"} }, impl.FormFine},
		{"value of an out without a name", func(b *impl.Block) { b.Outs[1].Vals = []string{"k", "k l"} }, impl.FormName},
		{"value of an out twice", func(b *impl.Block) { b.Outs[1].Vals = []string{"k", "k"} }, impl.FormName},
		{"value of two outs", func(b *impl.Block) { b.Outs[1].Vals = []string{"x2", "y"} }, impl.FormFine},
		{"value of an in and an out", func(b *impl.Block) { b.Outs[1].Vals = []string{"x"} }, impl.FormName},
		{"value of an in and a var", func(b *impl.Block) { b.Ins[1].Vals = []string{"c"} }, impl.FormName},
		{"value of an out and a var", func(b *impl.Block) { b.Outs[1].Vals = []string{"c"} }, impl.FormName},
		{"value like an event", func(b *impl.Block) { b.Outs[1].Vals = []string{"drop", "val", "open"} }, impl.FormFine},
		{"var without a name", func(b *impl.Block) { b.Vars = append(b.Vars, impl.Var{}) }, impl.FormName},
		{"two vars of one name", func(b *impl.Block) { b.Vars = append(b.Vars, impl.Var{Name: "c"}) }, impl.FormName},
		{"var like a state", func(b *impl.Block) { b.Vars = append(b.Vars, impl.Var{Name: "open"}) }, impl.FormFine},
		{"var greatest", func(b *impl.Block) { b.Vars[0].Num = 999999 }, impl.FormFine},
		{"var too great", func(b *impl.Block) { b.Vars[0].Num = 1000000 }, impl.FormName},
		{"var least", func(b *impl.Block) { b.Vars[0].Num = -999999 }, impl.FormFine},
		{"var too small", func(b *impl.Block) { b.Vars[0].Num = -1000000 }, impl.FormName},
		{"var of 64 bits", func(b *impl.Block) { b.Vars[0].Num = -1 << 63 }, impl.FormName},
		{"state without a name", func(b *impl.Block) { b.States[3].Name = "" }, impl.FormName},
		{"two states of one name", func(b *impl.Block) { b.States[3].Name = "fwd" }, impl.FormName},
		{"state twice", func(b *impl.Block) { b.States = append(b.States, b.States[3]) }, impl.FormName},
		{"state like a value", func(b *impl.Block) { b.States[2].Name = "x"; b.States[0].Moves[1].To = "x" }, impl.FormFine},
		{"no states", func(b *impl.Block) { b.States = nil }, impl.FormState},
		{"empty states", func(b *impl.Block) { b.States = []impl.State{} }, impl.FormState},
		{"nothing", func(b *impl.Block) { *b = impl.Block{} }, impl.FormName},
		{"a name alone", func(b *impl.Block) { *b = impl.Block{Name: "a"} }, impl.FormState},
		{"the least block", func(b *impl.Block) { *b = impl.Block{Name: "a", States: []impl.State{{Name: "b"}}} }, impl.FormFine},
	})
}

func TestP10MovesAndActs(t *testing.T) {
	runBlockCases(t, gateText, []blockCase{
		{"event that goes", func(b *impl.Block) { b.States[0].Moves[0].Event = "pass" }, impl.FormEvent},
		{"event that is a sign", func(b *impl.Block) { b.States[0].Moves[0].Event = "-" }, impl.FormEvent},
		{"event that is none", func(b *impl.Block) { b.States[1].Moves[0].Event = "x" }, impl.FormEvent},
		{"event empty", func(b *impl.Block) { b.States[0].Moves[2].Event = "" }, impl.FormFine},
		{"to no state", func(b *impl.Block) { b.States[0].Moves[0].To = "none" }, impl.FormState},
		{"to nothing", func(b *impl.Block) { b.States[0].Moves[0].To = "" }, impl.FormState},
		{"to its own state", func(b *impl.Block) { b.States[0].Moves[0].To = "open" }, impl.FormFine},
		{"when empty", func(b *impl.Block) { b.States[0].Moves[0].When = "" }, impl.FormSum},
		{"when with blanks", func(b *impl.Block) { b.States[0].Moves[0].When = "x < c" }, impl.FormSum},
		{"when with needless parentheses", func(b *impl.Block) { b.States[0].Moves[0].When = "(x)" }, impl.FormSum},
		{"when with needed parentheses", func(b *impl.Block) { b.States[0].Moves[0].When = "x-(x-c)" }, impl.FormFine},
		{"when with needless noughts", func(b *impl.Block) { b.States[0].Moves[0].When = "01" }, impl.FormSum},
		{"when of a name that is not there", func(b *impl.Block) { b.States[0].Moves[0].When = "x<q" }, impl.FormSum},
		{"when of an event", func(b *impl.Block) { b.States[0].Moves[0].When = "val" }, impl.FormSum},
		{"when of a value that goes", func(b *impl.Block) { b.States[0].Moves[0].When = "y+x2+c+x" }, impl.FormFine},
		{"when is no sum", func(b *impl.Block) { b.States[0].Moves[0].When = "x<" }, impl.FormSum},
		{"when of 60 bytes", func(b *impl.Block) { b.States[0].Moves[0].When = strings.Repeat("999999*", 8) + "1234" }, impl.FormFine},
		{"when of 61 bytes", func(b *impl.Block) { b.States[0].Moves[0].When = strings.Repeat("999999*", 8) + "12345" }, impl.FormSum},
		{"when of 24 nodes", func(b *impl.Block) { b.States[0].Moves[0].When = "-" + strings.Repeat("x+", 11) + "1" }, impl.FormFine},
		{"when of 25 nodes", func(b *impl.Block) { b.States[0].Moves[0].When = strings.Repeat("x+", 12) + "1" }, impl.FormSum},
		{"tell of what comes", func(b *impl.Block) { b.States[1].Acts[1].Name = "val" }, impl.FormEvent},
		{"tell of nothing", func(b *impl.Block) { b.States[1].Acts[1].Name = "" }, impl.FormEvent},
		{"tell with a sum", func(b *impl.Block) { b.States[1].Acts[1].Sum = "1" }, impl.FormSet},
		{"tell of nothing with a sum", func(b *impl.Block) { b.States[1].Acts[1] = impl.Act{Kind: impl.ActTell, Sum: "1"} }, impl.FormSet},
		{"set of what comes", func(b *impl.Block) { b.States[1].Acts[0].Name = "x" }, impl.FormSet},
		{"set of an event", func(b *impl.Block) { b.States[1].Acts[0].Name = "pass" }, impl.FormSet},
		{"set of nothing", func(b *impl.Block) { b.States[1].Acts[0].Name = "" }, impl.FormSet},
		{"set of the last value that goes", func(b *impl.Block) { b.States[1].Acts[0].Name = "x2" }, impl.FormFine},
		{"set of a var", func(b *impl.Block) { b.States[1].Acts[0].Name = "c" }, impl.FormFine},
		{"set without a sum", func(b *impl.Block) { b.States[1].Acts[0].Sum = "" }, impl.FormSum},
		{"set with blanks", func(b *impl.Block) { b.States[1].Acts[0].Sum = " x" }, impl.FormSum},
		{"set by a name that is not there", func(b *impl.Block) { b.States[1].Acts[0].Sum = "x*gate" }, impl.FormSum},
		{"act of kind 0", func(b *impl.Block) { b.States[1].Acts[0].Kind = 0 }, impl.FormSet},
		{"act of kind 3", func(b *impl.Block) { b.States[1].Acts[0].Kind = 3 }, impl.FormSet},
		{"act of kind -1", func(b *impl.Block) { b.States[1].Acts[1].Kind = -1 }, impl.FormSet},
		{"act of nothing", func(b *impl.Block) { b.States[1].Acts[1] = impl.Act{} }, impl.FormSet},
	})
}

// moveTo adds a move without an event.
func moveTo(b *impl.Block, from int, to string, when string) {
	b.States[from].Moves = append(b.States[from].Moves, impl.Move{To: to, When: when})
}

func TestP10Rings(t *testing.T) {
	runBlockCases(t, gateText, []blockCase{
		{"to itself", func(b *impl.Block) { moveTo(b, 3, "shut", "1") }, impl.FormRing},
		{"to itself, never", func(b *impl.Block) { moveTo(b, 0, "open", "0") }, impl.FormRing},
		{"the last of four to itself", func(b *impl.Block) { b.States[3].Moves = nil; moveTo(b, 3, "open", "1"); moveTo(b, 3, "shut", "1") }, impl.FormRing},
		{"of two", func(b *impl.Block) { moveTo(b, 0, "fwd", "1") }, impl.FormRing},
		{"of two, the other way", func(b *impl.Block) { moveTo(b, 0, "no", "1") }, impl.FormRing},
		{"of three", func(b *impl.Block) { moveTo(b, 0, "shut", "1"); moveTo(b, 3, "no", "1") }, impl.FormRing},
		{"two ways to one", func(b *impl.Block) { moveTo(b, 0, "shut", "1"); moveTo(b, 1, "shut", "1") }, impl.FormFine},
		{"twice the same", func(b *impl.Block) { moveTo(b, 1, "open", "1"); moveTo(b, 2, "fwd", "1") }, impl.FormFine},
		{"an event on the way", func(b *impl.Block) {
			moveTo(b, 0, "shut", "1")
			b.States[3].Moves = []impl.Move{{Event: "val", When: "1", To: "open"}}
		}, impl.FormFine},
	})
	runBlockCases(t, fullText, []blockCase{
		{"chain of five", func(b *impl.Block) {}, impl.FormFine},
		{"ring of five", func(b *impl.Block) { b.States[0].Moves[3].To = "s2"; moveTo(b, 4, "s1", "1") }, impl.FormRing},
		{"ring of four behind one", func(b *impl.Block) { moveTo(b, 4, "s2", "1") }, impl.FormRing},
		{"ring in the middle", func(b *impl.Block) { moveTo(b, 3, "s3", "0") }, impl.FormRing},
		{"ring of two at the end", func(b *impl.Block) { moveTo(b, 4, "s4", "1") }, impl.FormRing},
		{"chain of five backwards", func(b *impl.Block) { slices.Reverse(b.States) }, impl.FormFine},
	})
}

func TestP10Limits(t *testing.T) {
	if impl.PortMax != 3 || impl.ValMax != 3 || impl.VarMax != 4 || impl.StateMax != 5 || impl.MoveMax != 4 || impl.ActMax != 4 || impl.TextMax != 900 || impl.SlotMax != 16 {
		t.Error("a limit is another one")
	}
	b := mustBlock(fullText)
	if len(b.Ins) != 3 || len(b.Outs) != 3 || len(b.Vars) != 4 || len(b.States) != 5 || len(b.States[0].Moves) != 4 || len(b.States[0].Acts) != 4 || len(impl.BlockNames(b)) != 16 {
		t.Fatal("the full block is not full")
	}
	move := impl.Move{Event: "i1", When: "1", To: "s1"}
	runBlockCases(t, fullText, []blockCase{
		{"full", func(b *impl.Block) {}, impl.FormFine},
		{"one in more", func(b *impl.Block) { b.Ins = append(b.Ins, impl.Port{Name: "i4"}) }, impl.FormName},
		{"one out more", func(b *impl.Block) { b.Outs = append(b.Outs, impl.Port{Name: "o4"}) }, impl.FormName},
		{"one value of an in more", func(b *impl.Block) { b.Ins[1].Vals = append(b.Ins[1].Vals, "a") }, impl.FormName},
		{"one value of an out more", func(b *impl.Block) { b.Outs[1].Vals = append(b.Outs[1].Vals, "k") }, impl.FormName},
		{"one var more", func(b *impl.Block) {
			b.Outs[1].Vals = b.Outs[1].Vals[:1]
			b.Vars = append(b.Vars, impl.Var{Name: "v5"})
		}, impl.FormName},
		{"one state more", func(b *impl.Block) { b.States = append(b.States, impl.State{Name: "s6"}) }, impl.FormName},
		{"one value in all more, that goes", func(b *impl.Block) { b.Outs[2].Vals = []string{"n"} }, impl.FormName},
		{"one value in all more, that comes", func(b *impl.Block) { b.Ins[2].Vals[0] = "n" }, impl.FormName},
		{"values in all as many, in more places", func(b *impl.Block) { b.Outs[2].Vals = []string{"h", "j", "m"} }, impl.FormFine},
		{"one move more", func(b *impl.Block) { b.States[0].Moves = append(b.States[0].Moves, move) }, impl.FormName},
		{"one move more in the last state", func(b *impl.Block) { b.States[4].Moves = []impl.Move{move, move, move, move, move} }, impl.FormName},
		{"as many moves in the last state", func(b *impl.Block) { b.States[4].Moves = []impl.Move{move, move, move, move} }, impl.FormFine},
		{"one act more", func(b *impl.Block) { b.States[0].Acts = append(b.States[0].Acts, b.States[0].Acts[3]) }, impl.FormName},
		{"one act more in the last state", func(b *impl.Block) { b.States[4].Acts = append(b.States[0].Acts, b.States[0].Acts[3]) }, impl.FormName},
		{"as many acts in the last state", func(b *impl.Block) { b.States[4].Acts = slices.Clone(b.States[0].Acts) }, impl.FormFine},
		{"very many ins", func(b *impl.Block) { b.Ins = make([]impl.Port, 100000) }, impl.FormName},
		{"very many values", func(b *impl.Block) { b.Outs[0].Vals = manyNames(50000) }, impl.FormName},
		{"very many states", func(b *impl.Block) { b.States = make([]impl.State, 100000) }, impl.FormName},
		{"very many moves", func(b *impl.Block) { b.States[2].Moves = make([]impl.Move, 100000) }, impl.FormName},
	})
}

func TestP10TwoWrongsAtOnce(t *testing.T) {
	crowd := func(s *impl.State) { s.Acts = make([]impl.Act, 5) }
	runBlockCases(t, gateText, []blockCase{
		{"no states, no name", func(b *impl.Block) { b.States = nil; b.Vars[0].Name = "" }, impl.FormName},
		{"last var too great, first move wrong", func(b *impl.Block) { b.States[0].Moves[0].Event = "q"; b.Vars[0].Num = 1 << 40 }, impl.FormName},
		{"names in common, first sum wrong", func(b *impl.Block) { b.States[0].Moves[0].When = "q"; b.Outs[1].Vals = []string{"x"} }, impl.FormName},
		{"last state's name, first move's state", func(b *impl.Block) { b.States[0].Moves[0].To = "q"; b.States[3].Name = "fwd" }, impl.FormName},
		{"event ahead of state", func(b *impl.Block) { b.States[0].Moves[0] = impl.Move{Event: "q", When: "x", To: "q"} }, impl.FormEvent},
		{"event ahead of sum", func(b *impl.Block) { b.States[0].Moves[0] = impl.Move{Event: "q", When: "q", To: "no"} }, impl.FormEvent},
		{"state ahead of sum", func(b *impl.Block) { b.States[0].Moves[0] = impl.Move{Event: "val", When: "q", To: "q"} }, impl.FormState},
		{"all three of a move", func(b *impl.Block) { b.States[0].Moves[0] = impl.Move{Event: "q", When: "q", To: "q"} }, impl.FormEvent},
		{"sum of a move ahead of the event of the next", func(b *impl.Block) { b.States[0].Moves[0].When = "q"; b.States[0].Moves[1].Event = "q" }, impl.FormSum},
		{"state of a move ahead of the event of the next", func(b *impl.Block) { b.States[0].Moves[1].To = "q"; b.States[0].Moves[2].Event = "q" }, impl.FormState},
		{"moves ahead of acts", func(b *impl.Block) { b.States[1].Moves[0].When = "q"; b.States[1].Acts[0].Kind = 9 }, impl.FormSum},
		{"acts ahead of the next state's moves", func(b *impl.Block) { b.States[1].Acts[3].Kind = 9; b.States[2].Moves[0].To = "q" }, impl.FormSet},
		{"acts ahead of the next state's crowd", func(b *impl.Block) { b.States[1].Acts[3].Name = "q"; crowd(&b.States[2]) }, impl.FormEvent},
		{"crowd of acts ahead of its moves", func(b *impl.Block) { b.States[0].Moves[0].To = "q"; crowd(&b.States[0]) }, impl.FormName},
		{"crowd of moves ahead of its moves", func(b *impl.Block) { b.States[0].Moves = make([]impl.Move, 5); b.States[0].Moves[0].Event = "q" }, impl.FormName},
		{"crowd behind a wrong state", func(b *impl.Block) { b.States[0].Moves[2].To = "q"; crowd(&b.States[3]) }, impl.FormState},
		{"set ahead of sum", func(b *impl.Block) { b.States[1].Acts[0] = impl.Act{Kind: impl.ActSet, Name: "x", Sum: "q"} }, impl.FormSet},
		{"sum of an act ahead of the next act", func(b *impl.Block) { b.States[1].Acts[0].Sum = "q"; b.States[1].Acts[1].Name = "q" }, impl.FormSum},
		{"tell ahead of set", func(b *impl.Block) { b.States[1].Acts[1].Name = "q"; b.States[1].Acts[2].Name = "q" }, impl.FormEvent},
		{"sum of the last state ahead of a ring of the first", func(b *impl.Block) { moveTo(b, 0, "open", "1"); b.States[2].Moves[0].When = "q" }, impl.FormSum},
		{"act of the last state ahead of a ring of the first", func(b *impl.Block) { moveTo(b, 0, "open", "1"); b.States[3].Acts = []impl.Act{{}} }, impl.FormSet},
		{"crowd of the last state ahead of a ring", func(b *impl.Block) { moveTo(b, 0, "open", "1"); crowd(&b.States[3]) }, impl.FormName},
		{"ring with a wrong sum", func(b *impl.Block) { moveTo(b, 0, "open", "q") }, impl.FormSum},
	})
}

// wrongTurns change one thing of a block, mostly for the worse.
func wrongTurns(r *rand.Rand, b *impl.Block) {
	words := []string{"", "-", "x", "p", "c", "val", "open", "q", "abcdefg", "A", "1", "x<", "x+1", "c ", "1+p"}
	word := words[r.Intn(len(words))]
	ports := &b.Ins
	if r.Intn(2) == 0 {
		ports = &b.Outs
	}
	state := &impl.State{}
	if len(b.States) > 0 {
		state = &b.States[r.Intn(len(b.States))]
	}
	switch r.Intn(14) {
	case 0:
		b.Name = word
	case 1:
		*ports = append(*ports, impl.Port{Name: word})
	case 2:
		if len(*ports) > 0 {
			(*ports)[r.Intn(len(*ports))].Name = word
		}
	case 3:
		if len(*ports) > 0 {
			p := &(*ports)[r.Intn(len(*ports))]
			p.Vals = append(p.Vals, word)
		}
	case 4:
		b.Vars = append(b.Vars, impl.Var{Name: word})
	case 5:
		if len(b.Vars) > 0 {
			b.Vars[r.Intn(len(b.Vars))] = impl.Var{Name: word, Num: []int{0, 999999, 1000000, -999999, -1000000}[r.Intn(5)]}
		}
	case 6:
		b.States = append(b.States, impl.State{Name: word})
	case 7:
		state.Name = word
	case 8:
		state.Moves = append(state.Moves, impl.Move{Event: word, When: "1", To: b.States[0].Name})
	case 9:
		state.Moves = append(state.Moves, impl.Move{When: "1", To: b.States[r.Intn(len(b.States))].Name})
	case 10:
		if len(state.Moves) > 0 {
			m := &state.Moves[r.Intn(len(state.Moves))]
			*[]*string{&m.Event, &m.When, &m.To}[r.Intn(3)] = word
		}
	case 11:
		state.Acts = append(state.Acts, impl.Act{Kind: r.Intn(4), Name: word, Sum: words[r.Intn(len(words))]})
	case 12:
		if len(state.Acts) > 0 {
			a := &state.Acts[r.Intn(len(state.Acts))]
			*[]*string{&a.Name, &a.Sum}[r.Intn(2)] = word
		}
	case 13:
		if len(state.Acts) > 0 {
			state.Acts[r.Intn(len(state.Acts))].Kind = r.Intn(5) - 1
		}
	}
}

func TestP10BlocksTurned(t *testing.T) {
	r := rand.New(rand.NewSource(10))
	seen := map[int]int{}
	for range 6000 {
		b := someBlock(r)
		if got := impl.BlockCheck(b); got != impl.FormFine {
			t.Fatalf("%d: %s", got, wantText(b))
		}
		for range 1 + r.Intn(3) {
			wrongTurns(r, &b)
		}
		want := wantCheck(b)
		seen[want]++
		if got := impl.BlockCheck(b); got != want {
			t.Fatalf("%d, not %d: %+v", got, want, b)
		}
		if want != impl.FormFine {
			nothingOfBlock(t, fmt.Sprint(b), b)
		}
	}
	for code := impl.FormFine; code <= impl.FormRing; code++ {
		if seen[code] < 50 {
			t.Errorf("code %d only %d times", code, seen[code])
		}
	}
}

// TestP10AsPromised turns any block in the ways that the promise names.
func TestP10AsPromised(t *testing.T) {
	r := rand.New(rand.NewSource(11))
	for range 1000 {
		b := someBlock(r)
		at := r.Intn(len(b.States))
		turn := func(want int, change func(c *impl.Block)) {
			c := copyOf(b)
			change(&c)
			if got := impl.BlockCheck(c); got != want {
				t.Errorf("%d, not %d: %+v", got, want, c)
			}
		}
		turn(impl.FormName, func(c *impl.Block) { c.States = append(c.States, c.States[at]) })
		if len(b.States[at].Moves) == impl.MoveMax {
			continue
		}
		move := func(c *impl.Block, m impl.Move) { c.States[at].Moves = append(c.States[at].Moves, m) }
		turn(impl.FormState, func(c *impl.Block) { move(c, impl.Move{When: "1", To: "none"}) })
		turn(impl.FormSum, func(c *impl.Block) { move(c, impl.Move{When: "none", To: b.States[0].Name}) })
		turn(impl.FormRing, func(c *impl.Block) { move(c, impl.Move{When: "1", To: b.States[at].Name}) })
	}
}

func TestP7BlocksReadBack(t *testing.T) {
	r := rand.New(rand.NewSource(7))
	long := 0
	for range 4000 {
		b := someBlock(r)
		given := copyOf(b)
		text := impl.BlockPut(given)
		if text != wantText(b) {
			t.Fatalf("%q, not %q", text, wantText(b))
		}
		back, ok := impl.BlockGet(text)
		if len(text) > impl.TextMax {
			long++
			if ok || !same(back, impl.Block{}) {
				t.Fatalf("%d bytes are read", len(text))
			}
		} else if !ok || !same(back, b) {
			t.Fatalf("%v %+v, not %+v", ok, back, b)
		}
		if !same(given, b) || !roomIsEmpty(given) || !areApart(given, back) {
			t.Fatal("an argument was written, or memory is shared")
		}
	}
	if long < 20 || long > 3000 {
		t.Errorf("%d of the blocks are too long", long)
	}
}

// sizedSum is a sum of so many bytes.
func sizedSum(size int) string {
	if size < 7 {
		return "123456"[:size]
	}
	if size == 7 {
		return "123+123"
	}
	return "123456+" + sizedSum(size-7)
}

// sizedBlock is a block whose text has so many bytes: acts of one line each fill it up.
func sizedBlock(size int) impl.Block {
	b := impl.Block{Name: "a", Vars: []impl.Var{{Name: "v"}}}
	for i := range impl.StateMax {
		b.States = append(b.States, impl.State{Name: fmt.Sprint("s", i)})
	}
	line := len("set v \n")
	for at := 0; ; at++ {
		left := size - len(wantText(b))
		if left == 0 {
			return b
		}
		if left > 2*line {
			left = min(left-line-1, line+impl.ExprMax-2)
		}
		s := &b.States[at%len(b.States)]
		s.Acts = append(s.Acts, impl.Act{Kind: impl.ActSet, Name: "v", Sum: sizedSum(left - line)})
	}
}

func TestP7BytesOfABlock(t *testing.T) {
	for size, want := range map[int]bool{800: true, 899: true, 900: true, 901: false, 902: false, 950: false} {
		b := sizedBlock(size)
		text := impl.BlockPut(b)
		if text != wantText(b) || len(text) != size {
			t.Fatalf("%d bytes, not %d: %q", len(text), size, text)
		}
		back, ok := impl.BlockGet(text)
		if ok != want || want && !same(back, b) || !want && !same(back, impl.Block{}) {
			t.Errorf("%d bytes: %v", size, ok)
		}
	}
}

func TestP7FullBlock(t *testing.T) {
	for _, text := range []string{gateText, fullText, "block a\nstate b\n", "block block\nin in in\nout in out\nvar var -1\nstate state\non in state in\n"} {
		b, ok := impl.BlockGet(text)
		if !ok || impl.BlockPut(b) != text || wantText(b) != text {
			t.Errorf("%v %q", ok, impl.BlockPut(b))
		}
	}
}

// nearlyTexts is texts that are nearly a block.
func nearlyTexts() []string {
	ok := func(from, to string) string {
		if !strings.Contains(gateText, from) {
			panic("the text has no " + from)
		}
		return strings.Replace(gateText, from, to, 1)
	}
	return []string{
		"", "\n", "\n\n", "block", "block\n", "block a", "block a\n", "block a\n\n", "state a\n", "block a\nstate b", "block \nstate b\n",
		"block a\nstate b\n\n", "\nblock a\nstate b\n", "block a\n\nstate b\n", "block a \nstate b\n", " block a\nstate b\n", "block  a\nstate b\n",
		"block a\nstate b\r\n", "block a\r\nstate b\r\n", "block a\tstate b\n", "Block a\nstate b\n", "block a\nstate b \n", "block a\nstate\n",
		"block a\nstate b c\n", "block a b\nstate b\n", "block a\nblock b\nstate b\n", "block a\nstate b\nblock c\nstate d\n", "block a\nstate b\x00\n", "block ä\nstate b\n",
		"block a\nstate b\nin c\n", "block a\nstate b\nout c\n", "block a\nstate b\nvar c 1\n", "block a\nstate b\nend\n", "block a\nstate b\nstate b\n",
		"block a\non - b 1\nstate b\n", "block a\nout o\ntell o\nstate b\n",
		ok("in val x\n", "in val x \n"), ok("in val x\n", "in val  x\n"), ok("in val x\n", "in val x,\n"), ok("in val x\n", "in val ,x\n"), ok("in stop\n", "in stop \n"), ok("in stop\n", "in stop ,\n"),
		ok("in stop\n", "in stop k,k\n"), ok("in stop\n", "in stop k, l\n"), ok("in stop\n", "in stop k l\n"), ok("in stop\n", "in\n"), ok("in stop\n", "in stop\nin val\n"), ok("in val x\n", ""),
		ok("in stop\nout pass y,x2\n", "out pass y,x2\nin stop\n"), ok("out drop\nvar c 3\n", "var c 3\nout drop\n"), ok("out drop\n", "out drop x\n"), ok("y,x2", "y;x2"), ok("y,x2", "y,,x2"), ok("y,x2", "y,y"),
		ok("var c 3\n", "var c\n"), ok("var c 3\n", "var c \n"), ok("var c 3\n", "var c 03\n"), ok("var c 3\n", "var c +3\n"), ok("var c 3\n", "var c -0\n"), ok("var c 3\n", "var c 0x3\n"), ok("var c 3\n", "var c 3.\n"), ok("var c 3\n", "var c 1_000\n"),
		ok("var c 3\n", "var c 1000000\n"), ok("var c 3\n", "var c -1000000\n"), ok("var c 3\n", "var c 99999999999999999999\n"), ok("var c 3\n", "var c 3 4\n"), ok("var c 3\n", "var c  3\n"), ok("var c 3\n", "var c --3\n"), ok("var c 3\n", "var x 3\n"), ok("var c 3\n", ""),
		ok("on val fwd x<c\n", "on val fwd x <c\n"), ok("on val fwd x<c\n", "on val fwd (x<c)\n"), ok("on val fwd x<c\n", "on val fwd x<c \n"), ok("on val fwd x<c\n", "on val fwd\n"), ok("on val fwd x<c\n", "on val fwd \n"), ok("on val fwd x<c\n", "on val  x<c\n"),
		ok("on val fwd x<c\n", "on fwd val x<c\n"), ok("on val fwd x<c\n", "on val x<c fwd\n"), ok("on val fwd x<c\n", "on val fwd x<q\n"), ok("on val fwd x<c\n", "on fwd x<c\n"), ok("on val fwd x<c\n", "on  fwd x<c\n"), ok("on val fwd x<c\n", "on - fwd x<c\n"), ok("on val fwd x<c\n", "on -- fwd x<c\n"), ok("on val no 1\n", "on val no 01\n"), ok("on val no 1\n", "on val no 1\n\n"),
		ok("on - open 1\nset y x*2\n", "set y x*2\non - open 1\n"), ok("tell pass\n", "tell pass \n"), ok("tell pass\n", "tell\n"), ok("tell pass\n", "tell pass 1\n"), ok("tell pass\n", "tell val\n"), ok("tell pass\n", "tell pass,drop\n"), ok("tell drop\n", "tell -\n"),
		ok("set y x*2\n", "set y\n"), ok("set y x*2\n", "set y \n"), ok("set y x*2\n", "set y x * 2\n"), ok("set y x*2\n", "set x x*2\n"), ok("set y x*2\n", "set  x*2\n"), ok("set y x*2\n", "set x*2\n"), ok("set y x*2\n", "Set y x*2\n"), ok("set y x*2\n", "set y x*2 1\n"),
		ok("state no\n", "state fwd\n"), ok("state no\n", "state\n"), ok("state no\n", ""), ok("on - open c==0\n", "on - no c==0\n"), ok("state shut\n", "state shut"), ok("state shut\n", "state shut\n\n"), ok("state shut\n", "state shut\n\x00"), ok("state shut\n", "state shut\nstate a\nstate b\n"),
		gateText[1:], gateText + gateText, gateText + " ", " " + gateText, gateText + "on\n", strings.ReplaceAll(gateText, "\n", "\r\n"), strings.ToUpper(gateText), strings.Repeat("\n", 900), strings.Repeat(" ", 900),
	}
}

func TestP8TextsThatAreNearlyABlock(t *testing.T) {
	for _, s := range nearlyTexts() {
		if b, ok := impl.BlockGet(s); ok || !same(b, impl.Block{}) {
			t.Errorf("%q: %v %+v", s, ok, b)
		}
	}
}

func TestP8WhatIsReadIsWrittenJustSo(t *testing.T) {
	r := rand.New(rand.NewSource(8))
	read := 0
	for range 20000 {
		text := spoilt(r, wantText(someBlock(r)))
		b, ok := impl.BlockGet(text)
		if !ok {
			if !same(b, impl.Block{}) {
				t.Fatalf("%q: %+v", text, b)
			}
			continue
		}
		read++
		if len(text) > impl.TextMax || impl.BlockPut(b) != text || impl.BlockCheck(b) != impl.FormFine || wantCheck(b) != impl.FormFine || !areApart(b) {
			t.Fatalf("%q: %q", text, impl.BlockPut(b))
		}
	}
	if read < 500 {
		t.Errorf("only %d were read", read)
	}
}

func TestP9NamesOfValues(t *testing.T) {
	texts := map[string]string{
		gateText:             "x y x2 c",
		fullText:             "a b c d e f g h j k l m v1 v2 v3 v4",
		"block a\nstate b\n": "",
		"block a\nin e z,y\nin f x,z,w\nout o q\nout p p,q\nvar b 1\nvar a 2\nstate s\n": "z y x w q p b a",
	}
	for text, want := range texts {
		if got := strings.Join(impl.BlockNames(mustBlock(text)), " "); got != want {
			t.Errorf("%q, not %q", got, want)
		}
	}
}

func TestP9EachValueOnce(t *testing.T) {
	r := rand.New(rand.NewSource(9))
	for range 3000 {
		b := someBlock(r)
		given := copyOf(b)
		names := impl.BlockNames(given)
		if !slices.Equal(names, wantNames(b)) || badNames(names, impl.SlotMax) {
			t.Fatalf("%v, not %v", names, wantNames(b))
		}
		if !slices.Equal(names[len(names)-len(b.Vars):], varNames(b)) {
			t.Fatalf("vars are not last: %v", names)
		}
		if !same(given, b) || !roomIsEmpty(given) || !areApart(given, names) {
			t.Fatal("an argument was written, or memory is shared")
		}
	}
}

func TestP14HowOftenAnEventIsTold(t *testing.T) {
	two := "block a\nin e\nout o\nout p\nstate s\n"
	cases := []struct {
		text, out string
		want      int
	}{
		{gateText, "pass", 2}, {gateText, "drop", 1}, {gateText, "val", -1}, {gateText, "", -1}, {gateText, "none", -1}, {gateText, "open", -1}, {gateText, "x2", -1},
		{fullText, "o1", 1}, {fullText, "o2", 1}, {fullText, "o3", 0},
		{two, "o", 0}, {two, "e", -1},
		{two + "tell o\ntell o\n", "o", 0},
		{two + "on e s 0\ntell o\ntell o\ntell p\n", "o", 2},
		{two + "on e t 1\ntell o\ntell o\nstate t\ntell o\n", "o", 1},
		{two + "on - t 1\ntell o\ntell o\nstate t\ntell o\n", "o", 1},
		{two + "on - t 1\ntell o\ntell o\nstate t\non e s 1\ntell o\n", "o", 3},
		{two + "on - t 0\ntell o\nstate t\non e s 1\ntell o\n", "o", 2},
		{two + "on - t 1\non - u 1\ntell p\nstate t\ntell o\non e s 1\n", "o", -1},
		{two + "on e s 1\non - t 1\non - u 1\ntell p\nstate t\ntell o\nstate u\ntell o\ntell o\n", "o", 2},
		{two + "on e s 1\non - t 1\non - u 1\ntell p\nstate t\ntell o\nstate u\ntell o\ntell o\n", "p", 1},
		{two + "on e u 1\nstate t\ntell o\nstate u\non - t 1\ntell o\ntell p\ntell o\ntell o\n", "o", 4},
		{two + "on e s 1\non - t 1\ntell o\ntell o\ntell o\ntell o\nstate t\non - u 1\ntell o\ntell o\ntell o\ntell o\nstate u\non - v 1\ntell o\ntell o\ntell o\ntell o\nstate v\non - w 1\ntell o\ntell o\ntell o\ntell o\nstate w\ntell o\ntell o\ntell o\ntell o\n", "o", 20},
	}
	for _, c := range cases {
		b, ok := impl.BlockGet(c.text)
		if !ok && c.want != -1 {
			t.Errorf("not read: %q", c.text)
		}
		if got := impl.BlockMost(b, c.out); got != c.want {
			t.Errorf("%s of %q: %d, not %d", c.out, c.text, got, c.want)
		}
	}
}

func TestP14MoreActsNeverTellLess(t *testing.T) {
	r := rand.New(rand.NewSource(14))
	more := 0
	for range 4000 {
		b := someBlock(r)
		at := r.Intn(len(b.States))
		for _, p := range b.Outs {
			most := impl.BlockMost(b, p.Name)
			if most != wantMost(b, p.Name) {
				t.Fatalf("%d, not %d: %s", most, wantMost(b, p.Name), wantText(b))
			}
			if len(b.States[at].Acts) == impl.ActMax {
				continue
			}
			c := copyOf(b)
			c.States[at].Acts = slices.Insert(c.States[at].Acts, r.Intn(len(c.States[at].Acts)+1), impl.Act{Kind: impl.ActTell, Name: p.Name})
			got := impl.BlockMost(c, p.Name)
			if got != wantMost(c, p.Name) || got != most && got != most+1 {
				t.Fatalf("%d, was %d: %s", got, most, wantText(c))
			}
			more += got - most
		}
		if impl.BlockMost(b, "none") != -1 {
			t.Fatal("an event that is none")
		}
	}
	if more < 500 {
		t.Errorf("only %d told more", more)
	}
}
