package tests

import (
	"fmt"
	"math/rand"
	"slices"
	"strings"
	"testing"

	"loop.example/telltale/impl"
)

type netCase struct {
	name string
	turn func(n *impl.Net)
	want int
}

// runNetCases turns a net that is ok, case by case, and holds all that is asked of a wrong net against the code.
func runNetCases(t *testing.T, n impl.Net, list []netCase) {
	t.Helper()
	if wantNetCheck(n) != impl.NetFine {
		t.Fatal("the net is not ok")
	}
	for _, c := range list {
		m := copyOf(n)
		c.turn(&m)
		if got := impl.NetCheck(m); got != c.want || got != wantNetCheck(m) {
			t.Errorf("%s: %d, not %d (%d)", c.name, got, c.want, wantNetCheck(m))
		}
		text := impl.NetPut(m)
		if c.want != impl.NetFine {
			nothingOfNet(t, c.name, m, n)
		} else if back, ok := impl.NetGet(text); text != wantNetText(m) || len(text) <= impl.NetMax && (!ok || !same(back, m)) {
			t.Errorf("%s: not read back", c.name)
		}
	}
}

// nothingOfNet asks all functions for the one answer that a net has that is not ok. It was turned from one that is.
func nothingOfNet(t *testing.T, name string, n impl.Net, was impl.Net) {
	t.Helper()
	if s := impl.NetPut(n); s != "" {
		t.Errorf("%s: written: %q", name, s)
	}
	if m, ok := impl.NetGet(wantNetText(n)); ok && same(m, n) {
		t.Errorf("%s: read: %v", name, m)
	}
	for node := -1; node < impl.NodesMax; node++ {
		if m := impl.NetMove(n, node); !same(m, impl.Net{}) {
			t.Errorf("%s: moved: %v", name, m)
		}
	}
	if o := impl.OneNew(n); !same(o, impl.One{}) {
		t.Errorf("%s: new: %v", name, o)
	}
	for _, o := range []impl.One{{}, wantNew(was), wantNew(n)} {
		if impl.OneOk(n, o) {
			t.Errorf("%s: ok: %v", name, o)
		}
		for kind := impl.DoPush; kind <= impl.DoTake; kind++ {
			if p, ok := impl.OneDo(n, o, impl.Do{Kind: kind}); ok || !same(p, impl.One{}) {
				t.Errorf("%s: done: %v", name, p)
			}
		}
	}
	if o := impl.OneRun(n, []impl.Do{{Kind: impl.DoPush}}); !same(o, impl.One{}) {
		t.Errorf("%s: run: %v", name, o)
	}
	costsNothing(t, name, n)
	hasNoParts(t, name, n, was)
	isNoPlantOf(t, name, n)
}

func TestP17LimitsOfNets(t *testing.T) {
	if impl.BlockMax != 4 || impl.UseMax != 5 || impl.NodesMax != 3 || impl.WireMax != 7 || impl.EndMax != 3 || impl.RoomMax != 3 || impl.NetMax != 3000 {
		t.Error("a limit is another one")
	}
	n := starNet()
	if len(n.Blocks) != 4 || len(n.Uses) != 5 || len(n.Wires) != 7 || len(n.Sources) != 3 || len(n.Sinks) != 3 || impl.BlockMost(n.Blocks[0], "o") != 3 {
		t.Fatal("the full net is not full")
	}
	least := impl.Block{Name: "k", States: []impl.State{{Name: "s"}}}
	told := func(at int) func(n *impl.Net) {
		return func(n *impl.Net) {
			acts := &n.Blocks[at].States[2].Acts
			*acts = append(*acts, impl.Act{Kind: impl.ActTell, Name: "o"})
		}
	}
	runNetCases(t, n, []netCase{
		{"full", func(n *impl.Net) {}, impl.NetFine},
		{"one kind more", func(n *impl.Net) { n.Blocks = append(n.Blocks, least) }, impl.NetBlock},
		{"one use more", func(n *impl.Net) { n.Uses = append(n.Uses, impl.Use{Name: "u6", Block: "a"}) }, impl.NetUse},
		{"one wire more", func(n *impl.Net) { n.Wires = append(n.Wires, wire("u1", "o", "u4", "e")) }, impl.NetWire},
		{"one source more", func(n *impl.Net) { n.Sources = append(n.Sources, end("u5", "f")) }, impl.NetEnd},
		{"one sink more", func(n *impl.Net) { n.Sinks = append(n.Sinks, end("u2", "o")) }, impl.NetEnd},
		{"node 2", func(n *impl.Net) { n.Uses[4].Node = 2 }, impl.NetFine},
		{"node 3", func(n *impl.Net) { n.Uses[4].Node = 3 }, impl.NetUse},
		{"node -1", func(n *impl.Net) { n.Uses[0].Node = -1 }, impl.NetUse},
		{"node of 64 bits", func(n *impl.Net) { n.Uses[0].Node = 1 << 32 }, impl.NetUse},
		{"four told by a wire", told(0), impl.NetRoom},
		{"four told by another wire", told(1), impl.NetRoom},
		{"four told by no wire", told(2), impl.NetFine},
		{"four told by the last wire but one", told(3), impl.NetRoom},
		{"four told by a sink alone", func(n *impl.Net) { told(0)(n); n.Wires = slices.Delete(n.Wires, 6, 7); n.Wires = n.Wires[2:] }, impl.NetFine},
		{"very many kinds", func(n *impl.Net) { n.Blocks = make([]impl.Block, 100000) }, impl.NetBlock},
		{"very many uses", func(n *impl.Net) { n.Uses = slices.Repeat(n.Uses, 50000) }, impl.NetUse},
		{"very many wires", func(n *impl.Net) { n.Wires = slices.Repeat(n.Wires, 50000) }, impl.NetWire},
		{"very many sources", func(n *impl.Net) { n.Sources = slices.Repeat(n.Sources, 50000) }, impl.NetEnd},
		{"very many sinks", func(n *impl.Net) { n.Sinks = slices.Repeat(n.Sinks, 50000) }, impl.NetEnd},
	})
}

func TestP17BlocksAndUses(t *testing.T) {
	runNetCases(t, mustNet(chainText), []netCase{
		{"as it is", func(n *impl.Net) {}, impl.NetFine},
		{"nothing", func(n *impl.Net) { *n = impl.Net{} }, impl.NetUse},
		{"blocks alone", func(n *impl.Net) { *n = impl.Net{Blocks: n.Blocks} }, impl.NetUse},
		{"uses alone", func(n *impl.Net) { *n = impl.Net{Uses: n.Uses} }, impl.NetUse},
		{"blocks and uses alone", func(n *impl.Net) { *n = impl.Net{Blocks: n.Blocks, Uses: n.Uses} }, impl.NetFine},
		{"one use alone", func(n *impl.Net) { *n = impl.Net{Blocks: n.Blocks[:1], Uses: n.Uses[:1]} }, impl.NetFine},
		{"empty uses", func(n *impl.Net) { *n = impl.Net{Blocks: n.Blocks, Uses: []impl.Use{}} }, impl.NetUse},
		{"two kinds of one name", func(n *impl.Net) { n.Blocks[1].Name = "count" }, impl.NetBlock},
		{"a kind twice", func(n *impl.Net) { n.Blocks = append(n.Blocks, n.Blocks[0]) }, impl.NetBlock},
		{"a kind without a name", func(n *impl.Net) { n.Blocks[1].Name = "" }, impl.NetBlock},
		{"a kind without states", func(n *impl.Net) { n.Blocks[0].States = nil }, impl.NetBlock},
		{"the last kind wrong", func(n *impl.Net) { n.Blocks[1].States[0].Moves[0].When = "q" }, impl.NetBlock},
		{"a kind with a ring", func(n *impl.Net) { n.Blocks[1].States[1].Moves[0].To = "a" }, impl.NetBlock},
		{"a kind that no use has", func(n *impl.Net) { n.Blocks = append(n.Blocks, mustBlock(gateText)) }, impl.NetFine},
		{"a kind that is nothing", func(n *impl.Net) { n.Blocks = append(n.Blocks, impl.Block{}) }, impl.NetBlock},
		{"kinds in another order", func(n *impl.Net) { slices.Reverse(n.Blocks) }, impl.NetFine},
		{"uses in another order", func(n *impl.Net) { slices.Reverse(n.Uses) }, impl.NetFine},
		{"a use without a name", func(n *impl.Net) { n.Uses = append(n.Uses, impl.Use{Block: "count"}) }, impl.NetUse},
		{"a use with a point", func(n *impl.Net) { n.Uses = append(n.Uses, impl.Use{Name: "p.q", Block: "count"}) }, impl.NetUse},
		{"a use of a figure", func(n *impl.Net) { n.Uses = append(n.Uses, impl.Use{Name: "1", Block: "count"}) }, impl.NetUse},
		{"a use of seven", func(n *impl.Net) { n.Uses = append(n.Uses, impl.Use{Name: "abcdefg", Block: "count"}) }, impl.NetUse},
		{"a use of six", func(n *impl.Net) { n.Uses = append(n.Uses, impl.Use{Name: "abcdef", Block: "count"}) }, impl.NetFine},
		{"a use like a kind", func(n *impl.Net) { n.Uses = append(n.Uses, impl.Use{Name: "count", Block: "pass"}) }, impl.NetFine},
		{"two uses of one name", func(n *impl.Net) { n.Uses[3].Name = "p" }, impl.NetUse},
		{"a use of no kind", func(n *impl.Net) { n.Uses[1].Block = "none" }, impl.NetUse},
		{"a use of an empty kind", func(n *impl.Net) { n.Uses[3].Block = "" }, impl.NetUse},
		{"a use of a use", func(n *impl.Net) { n.Uses[3].Block = "q" }, impl.NetUse},
		{"a kind goes", func(n *impl.Net) { n.Blocks = n.Blocks[:1] }, impl.NetUse},
	})
}

func TestP17WiresAndEnds(t *testing.T) {
	add := func(w impl.Wire) func(n *impl.Net) {
		return func(n *impl.Net) { n.Wires = append(n.Wires, w) }
	}
	source := func(e impl.End) func(n *impl.Net) {
		return func(n *impl.Net) { n.Sources = append(n.Sources, e) }
	}
	sink := func(e impl.End) func(n *impl.Net) {
		return func(n *impl.Net) { n.Sinks = append(n.Sinks, e) }
	}
	runNetCases(t, mustNet(chainText), []netCase{
		{"no wires", func(n *impl.Net) { n.Wires = nil }, impl.NetFine},
		{"no ends", func(n *impl.Net) { n.Sources, n.Sinks = nil, nil }, impl.NetFine},
		{"one wire more", add(wire("p", "up", "r", "val")), impl.NetFine},
		{"two values", add(wire("q", "both", "s", "two")), impl.NetFine},
		{"the first wire twice", add(wire("p", "up", "q", "val")), impl.NetWire},
		{"the last wire twice", add(wire("r", "low", "s", "val")), impl.NetWire},
		{"from no use", add(wire("z", "up", "q", "val")), impl.NetWire},
		{"from an empty use", add(wire("", "up", "q", "val")), impl.NetWire},
		{"from a kind", add(wire("count", "up", "q", "val")), impl.NetWire},
		{"from no event", add(wire("p", "none", "q", "val")), impl.NetWire},
		{"from an empty event", add(wire("p", "", "q", "val")), impl.NetWire},
		{"from an event of another kind", add(wire("p", "low", "r", "val")), impl.NetWire},
		{"from what comes", add(wire("q", "val", "r", "val")), impl.NetWire},
		{"to no use", add(wire("p", "up", "z", "val")), impl.NetWire},
		{"to an empty use", add(wire("p", "up", "", "val")), impl.NetWire},
		{"to no event", add(wire("p", "up", "q", "none")), impl.NetWire},
		{"to an event of another kind", add(wire("p", "up", "q", "tick")), impl.NetWire},
		{"to what goes", add(wire("p", "up", "q", "low")), impl.NetWire},
		{"to more values", add(wire("p", "up", "q", "two")), impl.NetWire},
		{"to fewer values", add(wire("q", "both", "r", "val")), impl.NetWire},
		{"nothing", add(impl.Wire{}), impl.NetWire},
		{"a wire to where a source is", func(n *impl.Net) { add(wire("q", "both", "r", "two"))(n); source(end("r", "two"))(n) }, impl.NetFine},
		{"a source to where a wire leads", source(end("q", "val")), impl.NetFine},
		{"the first source twice", source(end("p", "tick")), impl.NetEnd},
		{"the last source twice", source(end("q", "two")), impl.NetEnd},
		{"a source of no use", source(end("z", "tick")), impl.NetEnd},
		{"a source of no event", source(end("p", "none")), impl.NetEnd},
		{"a source of what goes", source(end("p", "up")), impl.NetEnd},
		{"a source of another kind", source(end("q", "tick")), impl.NetEnd},
		{"a source that is nothing", source(impl.End{}), impl.NetEnd},
		{"a sink where a wire is", sink(end("p", "up")), impl.NetFine},
		{"the first sink twice", sink(end("s", "high")), impl.NetEnd},
		{"the last sink twice", sink(end("r", "low")), impl.NetEnd},
		{"a sink of no use", sink(end("z", "low")), impl.NetEnd},
		{"a sink of no event", sink(end("s", "none")), impl.NetEnd},
		{"a sink of what comes", sink(end("s", "val")), impl.NetEnd},
		{"a sink of another kind", sink(end("p", "low")), impl.NetEnd},
		{"a sink that is nothing", sink(impl.End{}), impl.NetEnd},
	})
}

func TestP17Rings(t *testing.T) {
	n := starNet()
	n.Wires = nil
	// Each two letters are a wire, by places of uses.
	wires := func(pairs ...string) func(n *impl.Net) {
		return func(n *impl.Net) {
			for _, p := range pairs {
				n.Wires = append(n.Wires, wire("u"+p[:1], "o", "u"+p[1:], "e"))
			}
		}
	}
	runNetCases(t, n, []netCase{
		{"of one", wires("11"), impl.NetRing},
		{"of the last one", wires("55"), impl.NetRing},
		{"of one behind a chain", wires("12", "23", "33"), impl.NetRing},
		{"of two", wires("12", "21"), impl.NetRing},
		{"of two behind one", wires("12", "23", "32"), impl.NetRing},
		{"of two ahead of one", wires("45", "54", "51"), impl.NetRing},
		{"of three", wires("12", "23", "31"), impl.NetRing},
		{"of three, the other way", wires("13", "32", "21"), impl.NetRing},
		{"of four", wires("25", "54", "43", "32"), impl.NetRing},
		{"of five", wires("12", "23", "34", "45", "51"), impl.NetRing},
		{"of five, mixed", wires("14", "42", "25", "53", "31"), impl.NetRing},
		{"of two beside a chain", wires("12", "23", "45", "54"), impl.NetRing},
		{"two rings", wires("12", "21", "34", "43"), impl.NetRing},
		{"chain of five", wires("12", "23", "34", "45"), impl.NetFine},
		{"chain of five backwards", wires("54", "43", "32", "21"), impl.NetFine},
		{"chain of five, mixed", wires("31", "14", "42", "25"), impl.NetFine},
		{"two ways to one", wires("12", "13", "24", "34", "45"), impl.NetFine},
		{"short and long ways", wires("12", "23", "34", "14", "13", "24", "45"), impl.NetFine},
		{"all to the last", wires("15", "25", "35", "45"), impl.NetFine},
		{"all from the last", wires("51", "52", "53", "54"), impl.NetFine},
		{"there by one event, back by another", func(n *impl.Net) {
			n.Wires = []impl.Wire{wire("u1", "o", "u2", "e"), wire("u2", "p", "u1", "f")}
		}, impl.NetRing},
		{"two of one kind, one way", wires("15"), impl.NetFine},
	})
}

func TestP17TwoWrongsAtOnce(t *testing.T) {
	wrongs := []func(n *impl.Net){
		impl.NetBlock: func(n *impl.Net) { n.Blocks[2].Vars[0].Num = 1000000 },
		impl.NetUse:   func(n *impl.Net) { n.Uses[4].Node = 3 },
		impl.NetWire:  func(n *impl.Net) { n.Wires[6] = n.Wires[5] },
		impl.NetEnd:   func(n *impl.Net) { n.Sinks[2] = n.Sinks[1] },
		impl.NetRing:  func(n *impl.Net) { n.Wires[4] = wire("u5", "p", "u1", "e") },
		impl.NetRoom: func(n *impl.Net) {
			n.Blocks[1].States[1].Acts[0] = impl.Act{Kind: impl.ActTell, Name: "o"}
		},
	}
	var list []netCase
	for first := impl.NetBlock; first <= impl.NetRoom; first++ {
		for second := first; second <= impl.NetRoom; second++ {
			list = append(list, netCase{fmt.Sprint(first, " and ", second), func(n *impl.Net) {
				wrongs[first](n)
				if second > first {
					wrongs[second](n)
				}
			}, first})
		}
	}
	runNetCases(t, starNet(), append(list,
		netCase{"too many sinks ahead of a ring", func(n *impl.Net) {
			n.Sinks = append(n.Sinks, end("u2", "p"))
			wrongs[impl.NetRing](n)
		}, impl.NetEnd},
		netCase{"a wrong sink behind wrong wires", func(n *impl.Net) {
			n.Sinks[0].Use = "z"
			n.Wires[6].To.Use = "z"
		}, impl.NetWire},
		netCase{"no uses, and a wire of none", func(n *impl.Net) { n.Uses = nil }, impl.NetUse},
		netCase{"a use of a kind that is wrong", func(n *impl.Net) { n.Blocks[0].Name = "A" }, impl.NetBlock},
		netCase{"a wire twice that is a ring", func(n *impl.Net) {
			n.Wires[0] = wire("u1", "o", "u1", "e")
			n.Wires[1] = n.Wires[0]
		}, impl.NetWire},
	))
}

// wrongNet changes one thing of a net, mostly for the worse.
func wrongNet(r *rand.Rand, n *impl.Net) {
	word := []string{"", "p", "q", "a", "gate", "none", "val", "out", "abcdefg", "X"}[r.Intn(10)]
	ends := []*[]impl.End{&n.Sources, &n.Sinks}[r.Intn(2)]
	switch r.Intn(12) {
	case 0:
		wrongTurns(r, &n.Blocks[r.Intn(len(n.Blocks))])
	case 1:
		n.Blocks = append(n.Blocks, n.Blocks[r.Intn(len(n.Blocks))])
		n.Blocks[len(n.Blocks)-1].Name = word
	case 2:
		u := &n.Uses[r.Intn(len(n.Uses))]
		*[]*string{&u.Name, &u.Block}[r.Intn(2)] = word
	case 3:
		n.Uses[r.Intn(len(n.Uses))].Node = r.Intn(6) - 2
	case 4:
		n.Uses = append(n.Uses, impl.Use{Name: word, Block: n.Blocks[0].Name})
	case 5, 6:
		if len(n.Wires) > 0 {
			w := &n.Wires[r.Intn(len(n.Wires))]
			*[]*string{&w.From.Use, &w.From.Event, &w.To.Use, &w.To.Event}[r.Intn(4)] = word
		}
	case 7:
		if len(n.Wires) > 0 {
			w := n.Wires[r.Intn(len(n.Wires))]
			w.To.Use = n.Uses[r.Intn(len(n.Uses))].Name
			n.Wires = append(n.Wires, w)
		}
	case 8:
		ringWire(r, n)
	case 9:
		*ends = append(*ends, end(n.Uses[r.Intn(len(n.Uses))].Name, word))
	case 10:
		if len(*ends) > 0 {
			*ends = append(*ends, (*ends)[r.Intn(len(*ends))])
		}
	case 11:
		if len(n.Wires) > 0 {
			crowdWire(n, n.Wires[r.Intn(len(n.Wires))].From)
		}
	}
}

// crowdWire has an event told by all acts of the states of its block.
func crowdWire(n *impl.Net, e impl.End) {
	name := wantBlock(*n, e.Use).Name
	for i := range n.Blocks {
		for j := range n.Blocks[i].States {
			if n.Blocks[i].Name == name {
				n.Blocks[i].States[j].Acts = slices.Repeat([]impl.Act{{Kind: impl.ActTell, Name: e.Event}}, impl.ActMax)
			}
		}
	}
}

// ringWire adds wires between any two uses, whatever that makes of the net.
func ringWire(r *rand.Rand, n *impl.Net) {
	for range 20 {
		from, to := n.Uses[r.Intn(len(n.Uses))].Name, n.Uses[r.Intn(len(n.Uses))].Name
		for _, out := range wantBlock(*n, from).Outs {
			for _, in := range wantBlock(*n, to).Ins {
				if w := wire(from, out.Name, to, in.Name); len(out.Vals) == len(in.Vals) && len(n.Wires) < impl.WireMax && !slices.Contains(n.Wires, w) {
					n.Wires = append(n.Wires, w)
				}
			}
		}
	}
}

func TestP17NetsTurned(t *testing.T) {
	t.Parallel()
	r := rand.New(rand.NewSource(17))
	seen := map[int]int{}
	for range 2000 {
		was := someNet(r)
		n := copyOf(was)
		if got := impl.NetCheck(n); got != impl.NetFine {
			t.Fatalf("%d: %s", got, wantNetText(n))
		}
		for range 1 + r.Intn(2) {
			wrongNet(r, &n)
		}
		want := wantNetCheck(n)
		seen[want]++
		h := hand(n)
		if got := impl.NetCheck(h.now); got != want || !h.isUntouched() {
			t.Fatalf("%d, not %d: %s", got, want, wantNetText(n))
		}
		if want != impl.NetFine {
			nothingOfNet(t, wantNetText(n), n, was)
		}
	}
	for code := impl.NetFine; code <= impl.NetRoom; code++ {
		if seen[code] < 50 {
			t.Errorf("code %d only %d times", code, seen[code])
		}
	}
}

// TestP17AsPromised turns any net in the ways that the promise names.
func TestP17AsPromised(t *testing.T) {
	r := rand.New(rand.NewSource(18))
	for range 500 {
		n := someNet(r)
		turn := func(want int, change func(m *impl.Net)) {
			m := copyOf(n)
			change(&m)
			if got := impl.NetCheck(m); got != want {
				t.Errorf("%d, not %d: %s", got, want, wantNetText(m))
			}
		}
		turn(impl.NetWire, func(m *impl.Net) {
			m.Wires = append(m.Wires, wire("none", "out", m.Uses[0].Name, "in"))
		})
		turn(impl.NetUse, func(m *impl.Net) { m.Uses[r.Intn(len(m.Uses))].Node = impl.NodesMax })
		turn(impl.NetUse, func(m *impl.Net) { m.Uses[r.Intn(len(m.Uses))].Node = -1 })
		if len(n.Sources) > 0 {
			turn(impl.NetEnd, func(m *impl.Net) { m.Sources = append(m.Sources, m.Sources[r.Intn(len(m.Sources))]) })
		}
	}
}

func TestP15NetsReadBack(t *testing.T) {
	r := rand.New(rand.NewSource(15))
	read, wires := 0, 0
	for range 2000 {
		n := someNet(r)
		h := hand(n)
		text := impl.NetPut(h.now)
		if text != wantNetText(n) {
			t.Fatalf("%q, not %q", text, wantNetText(n))
		}
		back, ok := impl.NetGet(text)
		if len(text) > impl.NetMax {
			if ok || !same(back, impl.Net{}) {
				t.Fatalf("%d bytes are read", len(text))
			}
		} else if read++; !ok || !same(back, n) {
			t.Fatalf("%v %+v, not %+v", ok, back, n)
		}
		wires = max(wires, len(n.Wires))
		if !h.isUntouched() || !areApart(h.now, back) {
			t.Fatal("an argument was written, or memory is shared")
		}
	}
	if read < 1000 || wires < impl.WireMax {
		t.Errorf("%d were read, with up to %d wires", read, wires)
	}
}

// sizedNet is a net whose text has so many bytes, with a last block that is longer than it may be alone.
func sizedNet(size int) impl.Net {
	n := impl.Net{Uses: []impl.Use{{Name: "p", Block: "a1"}}}
	for i, part := range []int{900, 300, 850} {
		n.Blocks = append(n.Blocks, sizedBlock(part))
		n.Blocks[i].Name = fmt.Sprint("a", i)
	}
	n.Blocks = append(n.Blocks, sizedBlock(size-len(wantNetText(n))))
	return n
}

func TestP15BytesOfANet(t *testing.T) {
	for size, want := range map[int]bool{2900: true, 2999: true, 3000: true, 3001: false, 3002: false, 3100: false} {
		n := sizedNet(size)
		text := impl.NetPut(n)
		if text != wantNetText(n) || len(text) != size {
			t.Fatalf("%d bytes, not %d", len(text), size)
		}
		back, ok := impl.NetGet(text)
		if ok != want || want && !same(back, n) || !want && !same(back, impl.Net{}) {
			t.Errorf("%d bytes: %v", size, ok)
		}
	}
}

// TestP15LongBlocks: what a block may have at most alone does not bound it in a net.
func TestP15LongBlocks(t *testing.T) {
	for _, size := range []int{900, 901, 950, 1100} {
		b := sizedBlock(size)
		n := impl.Net{Blocks: []impl.Block{b, mustBlock(gateText)}, Uses: []impl.Use{{Name: "p", Block: "a"}}}
		if _, ok := impl.BlockGet(impl.BlockPut(b)); ok != (size <= impl.TextMax) {
			t.Fatalf("%d bytes: %v", size, ok)
		}
		if back, ok := impl.NetGet(impl.NetPut(n)); !ok || !same(back, n) {
			t.Errorf("%d bytes: %v", size, ok)
		}
	}
}

func TestP15WholeTexts(t *testing.T) {
	for _, text := range []string{chainText, "block a\nstate b\nuse c a 0\n", "block use\nin wire\nout use\nstate sink\nuse use use 2\nuse block use 1\nwire use.use block.wire\nsource use.wire\nsink block.use\nsink use.use\n", impl.NetPut(starNet())} {
		n, ok := impl.NetGet(text)
		if !ok || impl.NetPut(n) != text || wantNetText(n) != text {
			t.Errorf("%v %q", ok, impl.NetPut(n))
		}
	}
	n := mustNet(chainText)
	want := impl.Net{
		Blocks:  []impl.Block{mustBlock(countText), mustBlock(passText)},
		Uses:    []impl.Use{{Name: "p", Block: "count", Node: 0}, {Name: "q", Block: "pass", Node: 1}, {Name: "r", Block: "pass", Node: 2}, {Name: "s", Block: "pass", Node: 0}},
		Wires:   []impl.Wire{wire("p", "up", "q", "val"), wire("q", "low", "r", "val"), wire("q", "high", "r", "val"), wire("r", "low", "s", "val")},
		Sources: []impl.End{end("p", "tick"), end("q", "two")},
		Sinks:   []impl.End{end("s", "high"), end("r", "low")},
	}
	if !same(n, want) {
		t.Errorf("%+v", n)
	}
}

// nearlyNets is texts that are nearly a net.
func nearlyNets() []string {
	turn := func(from, to string) string {
		if !strings.Contains(chainText, from) {
			panic("the text has no " + from)
		}
		return strings.Replace(chainText, from, to, 1)
	}
	least := "block a\nstate b\nuse c a 0\n"
	out := []string{
		"", "\n", "\n\n", " ", "use", "use\n", "block a\nstate b\n", "use c a 0\n", "use c a 0\nblock a\nstate b\n", "block a\nuse c a 0\n", "block a\nuse c a 0\nstate b\n",
		least[:len(least)-1], least + "\n", "\n" + least, " " + least, least + " ", least + "x\n", least + "state d\n", least + "go\n", least + "block d\nstate b\n", least + least, least + "\x00",
		"block a\nstate b\n\nuse c a 0\n", "block a\nstate b\nuse c a 0\r\n", "block a\nstate b\nblock a\nstate b\nuse c a 0\n", "block a\nstate b\nuse a c 0\n", "block a\nstate b\nuse c a 0\nstate d\n", "state b\nblock a\nstate b\nuse c a 0\n",
		countText, passText, chainText[1:], chainText + " ", chainText + "\n", chainText + "sink", chainText + "sink\n", chainText + "sink \n", chainText + "sink p\n", chainText + "sink p.\n", chainText + "sink .up\n", chainText + "sink p.up",
		chainText + "sink p.up\nsink q.low\n", chainText + "source p.tick\n", chainText + "wire p.up r.val\n", chainText + "use t pass 0\n", chainText + "set n c\n", chainText + "tell up\n", strings.ReplaceAll(chainText, "\n", "\r\n"), strings.ToUpper(chainText),
		strings.Repeat("\n", 3000), strings.Repeat(" ", 3000), strings.Repeat(".", 3000), strings.Repeat("use\n", 700), strings.Repeat("block\n", 500),
	}
	for _, to := range []string{"", "use p count\n", "use p count \n", "use p count 3\n", "use p count -1\n", "use p count 00\n", "use p count +0\n", "use p count -0\n", "use p count 0 \n", "use p count 0 0\n", "use p  count 0\n", "use  p count 0\n", "use p pass 0\n", "use q count 0\n", "use p none 0\n", "use p count x\n", "use p count 99999999999999999999\n", "use p.q count 0\n", "Use p count 0\n", "use p count 0\n\n", "\tuse p count 0\n"} {
		out = append(out, turn("use p count 0\n", to))
	}
	for _, to := range []string{"wire p.up\n", "wire p.up q.val \n", "wire p.up  q.val\n", "wire p.up q.val r.val\n", "wire p up q.val\n", "wire p.up q val\n", "wire pup q.val\n", "wire p.up qval\n", "wire p..up q.val\n", "wire p.up. q.val\n", "wire .p.up q.val\n", "wire p.up q.val.x\n", "wire p.up q.two\n", "wire q.val p.up\n", "wire p.up p.tick\n", "wire p.up q.val\nwire p.up q.val\n", "wire s.low q.val\n", "wire p,up q,val\n", "wire\n", "wire \n", "wire  \n", "wire . .\n", "wire p.up,q.val\n"} {
		out = append(out, turn("wire p.up q.val\n", to))
	}
	return append(out,
		turn("source p.tick\nsource q.two\n", "source p.tick q.two\n"), turn("source p.tick\n", "source p.up\n"), turn("source p.tick\n", "source p.tick \n"), turn("source p.tick\n", "source  p.tick\n"), turn("source p.tick\n", "source p tick\n"), turn("source p.tick\n", "sources p.tick\n"), turn("source p.tick\n", "source ptick\n"),
		turn("sink s.high\n", "sink s.val\n"), turn("sink s.high\n", "sink r.low\n"), turn("sink s.high\n", "sink s.high s.low\n"), turn("sink s.high\n", "sink s.high.\n"),
		turn("wire p.up q.val\nwire q.low r.val\n", "wire p.up q.val\nuse t pass 0\nwire q.low r.val\n"), turn("wire r.low s.val\nsource p.tick\n", "source p.tick\nwire r.low s.val\n"), turn("source q.two\nsink s.high\n", "sink s.high\nsource q.two\n"),
		turn("use p count 0\n", "wire p.up q.val\nuse p count 0\n"), turn("use p count 0\n", "source p.tick\nuse p count 0\n"), turn("use p count 0\n", "use p count 0\nblock z\nstate s\n"), turn("use s pass 0\n", "use s pass 0\n"+gateText),
		turn("tell up\n", "tell up\ntell up\ntell up\ntell up\n"), turn("on tick add 1\n", "on tick add 01\n"), turn("var c 0\n", "var c 00\n"), turn("in tick\n", "in tick \n"), turn("block count\n", "block pass\n"), turn("block count\n", ""), turn("block pass\n", ""), turn("block pass\n", "block  pass\n"), turn("tell low\n", "tell low\nuse z pass 0\n"), turn("tell low\n", "tell low\nsource p.tick\n"),
	)
}

func TestP16TextsThatAreNearlyANet(t *testing.T) {
	for _, s := range nearlyNets() {
		if n, ok := impl.NetGet(s); ok || !same(n, impl.Net{}) {
			t.Errorf("%q: %v %+v", s, ok, n)
		}
	}
}

// relined is a text in which two lines change places, or one is gone or there twice.
func relined(r *rand.Rand, s string) string {
	lines := strings.SplitAfter(strings.TrimSuffix(s, "\n"), "\n")
	lines[len(lines)-1] += "\n"
	i, j := r.Intn(len(lines)), r.Intn(len(lines))
	switch r.Intn(3) {
	case 0:
		lines[i], lines[j] = lines[j], lines[i]
	case 1:
		lines = slices.Delete(lines, i, i+1)
	case 2:
		lines = slices.Insert(lines, i, lines[j])
	}
	return strings.Join(lines, "")
}

func TestP16WhatIsReadIsWrittenJustSo(t *testing.T) {
	t.Parallel()
	r := rand.New(rand.NewSource(16))
	read := 0
	for range 6000 {
		text := wantNetText(someNet(r))
		if r.Intn(2) == 0 {
			text = chainText
		}
		if r.Intn(2) == 0 {
			text = spoilt(r, text)
		} else {
			text = relined(r, text)
		}
		n, ok := impl.NetGet(text)
		if !ok {
			if !same(n, impl.Net{}) {
				t.Fatalf("%q: %+v", text, n)
			}
			continue
		}
		read++
		if len(text) > impl.NetMax || impl.NetPut(n) != text || wantNetText(n) != text || impl.NetCheck(n) != impl.NetFine || wantNetCheck(n) != impl.NetFine || !areApart(n) {
			t.Fatalf("%q: %q", text, impl.NetPut(n))
		}
	}
	if read < 300 {
		t.Errorf("only %d were read", read)
	}
}

func TestP18NetsMoved(t *testing.T) {
	r := rand.New(rand.NewSource(18))
	nets := []impl.Net{mustNet(chainText), starNet()}
	for range 500 {
		nets = append(nets, someNet(r))
	}
	for _, n := range nets {
		for node := -1; node < impl.NodesMax; node++ {
			want := copyOf(n)
			for i := range want.Uses {
				want.Uses[i].Node = node
				if node < 0 {
					want.Uses[i].Node = []int{0, 1, 2, 0, 1}[i]
				}
			}
			h := hand(n)
			m := impl.NetMove(h.now, node)
			if !same(m, want) || impl.NetCheck(m) != impl.NetFine {
				t.Fatalf("to %d: %+v, not %+v", node, m, want)
			}
			if !h.isUntouched() || !areApart(h.now, m) {
				t.Fatal("an argument was written, or memory is shared")
			}
		}
		for _, node := range []int{-2, impl.NodesMax, 4, 1 << 32, -1 << 63, 1<<63 - 1} {
			if m := impl.NetMove(n, node); !same(m, impl.Net{}) {
				t.Fatalf("to %d: %+v", node, m)
			}
		}
	}
}
