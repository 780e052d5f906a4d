package tests

import (
	"fmt"
	"math/rand"
	"slices"
	"testing"

	"loop.example/telltale/impl"
)

// spreads follows what comes to a use so many times, wire by wire to the ends of all chains, and counts what goes by each.
func spreads(n impl.Net, use string, times int, costs []int) {
	for i, w := range n.Wires {
		if w.From.Use == use && times > 0 {
			told := times * wantMost(wantBlock(n, use), w.From.Event)
			costs[i] += told
			spreads(n, w.To.Use, told, costs)
		}
	}
}

// allCosts is how many events can come by each way, however many these are.
func allCosts(n impl.Net, source int) []int {
	costs := make([]int, len(wayEnds(n)))
	costs[len(n.Wires)+source] = 1
	spreads(n, n.Sources[source].Use, 1, costs)
	return costs
}

// upToCostMax is numbers without what is above the greatest one that is told.
func upToCostMax(list []int) []int {
	var out []int
	for _, num := range list {
		out = append(out, min(num, 9999))
	}
	return out
}

func sumOf(list []int) int {
	sum := 0
	for _, num := range list {
		sum += num
	}
	return sum
}

// wantCostTold is what the document asks each sink to cost.
func wantCostTold(n impl.Net, source int) []int {
	var out []int
	costs := allCosts(n, source)
	for _, e := range n.Sinks {
		come := 0
		for way, to := range wayEnds(n) {
			if to.Use == e.Use {
				come += costs[way]
			}
		}
		out = append(out, come*wantMost(wantBlock(n, e.Use), e.Event))
	}
	return upToCostMax(out)
}

// deepFrom is how many blocks the longest chain from a use on has.
func deepFrom(n impl.Net, use string) int {
	most := 0
	for _, w := range n.Wires {
		if w.From.Use == use {
			most = max(most, deepFrom(n, w.To.Use))
		}
	}
	return 1 + most
}

func wantDeep(n impl.Net) int {
	most := 0
	for _, u := range n.Uses {
		most = max(most, deepFrom(n, u.Name))
	}
	return most
}

// keepsCosts asks for what the document asks for of a net that is ok, and that nothing is written or shared.
func keepsCosts(t *testing.T, n impl.Net) {
	t.Helper()
	h := hand(n)
	if got := impl.CostDeep(h.now); got != wantDeep(n) {
		t.Fatalf("%d deep, not %d\n%s", got, wantDeep(n), wantNetText(n))
	}
	for source := range n.Sources {
		of, told, all := impl.CostOf(h.now, source), impl.CostTold(h.now, source), impl.CostAll(h.now, source)
		if want := upToCostMax(allCosts(n, source)); !slices.Equal(of, want) {
			t.Fatalf("source %d: %v, not %v\n%s", source, of, want, wantNetText(n))
		}
		if want := wantCostTold(n, source); !slices.Equal(told, want) {
			t.Fatalf("source %d: told %v, not %v\n%s", source, told, want, wantNetText(n))
		}
		if want := min(9999, sumOf(allCosts(n, source))); all != want {
			t.Fatalf("source %d: all %d, not %d\n%s", source, all, want, wantNetText(n))
		}
		if !areApart(h.now, of, told) {
			t.Fatal("memory is shared")
		}
	}
	for _, source := range []int{-1, len(n.Sources), len(n.Sources) + 1, -1 << 63, 1<<63 - 1} {
		hasNoSource(t, n, source)
	}
	if !h.isUntouched() {
		t.Fatal("an argument was written")
	}
}

func hasNoSource(t *testing.T, n impl.Net, source int) {
	t.Helper()
	of, told, all := impl.CostOf(n, source), impl.CostTold(n, source), impl.CostAll(n, source)
	if len(of) > 0 || len(told) > 0 || all != -1 {
		t.Errorf("source %d: %v %v %d", source, of, told, all)
	}
}

// costsNothing asks all functions for the one answer that a net has that is not ok.
func costsNothing(t *testing.T, name string, n impl.Net) {
	t.Helper()
	for source := -1; source <= impl.EndMax; source++ {
		hasNoSource(t, n, source)
	}
	if deep := impl.CostDeep(n); deep != -1 {
		t.Errorf("%s: %d deep", name, deep)
	}
}

// costlyNet has a chain of five, by two wires each but the last, that all tell thrice; the last one, to which 648 come, tells so many times, at most 20: it goes through all its states by one event.
func costlyNet(most int) impl.Net {
	last := "block last\nin e\nout o\nout none\n"
	for i, name := range []string{"a", "b", "c", "d", "f"} {
		event := []string{"e", "-"}[min(i, 1)]
		last += fmt.Sprintf("state %s\non %s %s 1\n", name, event, []string{"b", "c", "d", "f", "a"}[i])
		for range min(max(0, most-4*((i+4)%5)), 4) {
			last += "tell o\n"
		}
	}
	tri := "block tri\nin e\nin f\nout o\nstate s\non e t 1\non f t 1\nstate t\non - s 1\ntell o\ntell o\ntell o\n"
	return mustNet(tri + last + "use p tri 0\nuse q tri 1\nuse r tri 2\nuse s tri 0\nuse t last 1\n" +
		"wire p.o q.e\nwire p.o q.f\nwire q.o r.e\nwire q.o r.f\nwire r.o s.e\nwire r.o s.f\nwire s.o t.e\nsource p.e\nsource t.e\nsink t.o\nsink s.o\nsink t.none\n")
}

func TestP48CostsByHand(t *testing.T) {
	gate := "block g\nin e\nin f\nout o\nout never\nstate s\non e t 1\non f u 1\nstate t\non - s 1\ntell o\ntell o\nstate u\n"
	cases := []struct {
		name string
		n    impl.Net
		deep int
		of   [][]int
		told [][]int
	}{
		{"the chain", mustNet(chainText), 4, [][]int{{1, 1, 1, 2, 1, 0}, {0, 1, 1, 2, 0, 1}}, [][]int{{2, 2}, {2, 2}}},
		{"the star", starNet(), 4, [][]int{{3, 3, 1, 12, 3, 45, 3, 1, 0, 0}, {3, 3, 1, 12, 3, 45, 3, 0, 1, 0}, {0, 0, 0, 0, 0, 3, 0, 0, 0, 1}}, [][]int{{144, 48, 3}, {144, 48, 3}, {9, 3, 0}}},
		{"in a row", tripleNet(1, 0), 5, [][]int{{3, 9, 27, 81, 1}}, [][]int{{81}}},
		{"one use, nothing else", mustNet("block a\nstate b\nuse c a 0\n"), 1, nil, nil},
		{"one use with ends", mustNet(gate + "use p g 1\nsource p.f\nsource p.e\nsink p.never\nsink p.o\n"), 1, [][]int{{1, 0}, {0, 1}}, [][]int{{0, 2}, {0, 2}}},
		{"no wires", mustNet(gate + "use p g 0\nuse q g 1\nsource q.e\nsource p.e\nsink p.o\nsink q.o\n"), 1, [][]int{{1, 0}, {0, 1}}, [][]int{{0, 2}, {2, 0}}},
		{"no sinks", mustNet(gate + "use p g 0\nuse q g 1\nwire q.o p.f\nsource q.f\n"), 2, [][]int{{2, 1}}, [][]int{nil}},
		{"no sources", mustNet(gate + "use p g 0\nuse q g 1\nwire p.o q.e\nsink q.o\n"), 2, nil, nil},
		{"an event that is never told", mustNet(gate + "use p g 0\nuse q g 1\nuse r g 2\nwire q.o r.e\nwire p.never q.e\nsource p.e\nsink r.o\nsink p.o\n"), 3, [][]int{{0, 0, 1}}, [][]int{{0, 2}}},
		{"two wires from one event", mustNet(gate + "use p g 0\nuse q g 1\nuse r g 2\nwire p.o q.e\nwire p.o r.e\nsource p.f\nsink r.o\nsink q.never\nsink q.o\n"), 2, [][]int{{2, 2, 1}}, [][]int{{4, 0, 4}}},
		{"two wires from one event to one block", mustNet(gate + "use p g 0\nuse q g 0\nwire p.o q.f\nwire p.o q.e\nsource p.e\nsink q.o\n"), 2, [][]int{{2, 2, 1}}, [][]int{{8}}},
		{"two ways to one block", mustNet(gate + "use r g 2\nuse q g 1\nuse p g 0\nwire q.o r.e\nwire p.o q.e\nwire p.o r.e\nsource p.e\nsource r.f\nsink r.o\n"), 3, [][]int{{4, 2, 2, 1, 0}, {0, 0, 0, 0, 1}}, [][]int{{12}, {2}}},
		{"a source that is within a chain", mustNet(gate + "use p g 0\nuse q g 1\nuse r g 2\nwire p.o q.e\nwire q.o r.f\nsource q.e\nsink p.o\nsink r.o\n"), 3, [][]int{{0, 2, 1}}, [][]int{{0, 4}}},
		{"two chains", mustNet(gate + "use p g 0\nuse q g 0\nuse r g 0\nuse s g 0\nuse t g 0\nwire s.o t.e\nwire r.o s.e\nwire p.o q.e\nsource p.e\nsource r.e\nsink q.o\nsink t.o\n"), 3, [][]int{{0, 0, 2, 1, 0}, {4, 2, 0, 0, 1}}, [][]int{{4, 0}, {0, 8}}},
	}
	for _, c := range cases {
		keepsCosts(t, c.n)
		if deep := impl.CostDeep(c.n); deep != c.deep || len(c.of) != len(c.n.Sources) {
			t.Errorf("%s: %d deep, not %d", c.name, deep, c.deep)
		}
		for source, want := range c.of {
			of, told := impl.CostOf(c.n, source), impl.CostTold(c.n, source)
			if !slices.Equal(of, want) || !slices.Equal(told, c.told[source]) || impl.CostAll(c.n, source) != sumOf(want) {
				t.Errorf("%s: source %d: %v %v, not %v %v", c.name, source, of, told, want, c.told[source])
			}
		}
	}
}

// TestP49TheGreatestCost has costs around the greatest one that is told. There is no net with a cost that is just it: 648 is the most that can come to a block, and 20 the most that it can tell.
func TestP49TheGreatestCost(t *testing.T) {
	if impl.CostMax != 9999 {
		t.Error("the greatest cost is another one")
	}
	for most, want := range map[int]int{0: 0, 1: 648, 3: 1944, 14: 9072, 15: 9720, 16: 9999, 17: 9999, 20: 9999} {
		n := costlyNet(most)
		if impl.NetCheck(n) != impl.NetFine || impl.BlockMost(n.Blocks[1], "o") != most {
			t.Fatalf("%d: the net is another one", most)
		}
		keepsCosts(t, n)
		if told := impl.CostTold(n, 0); !slices.Equal(told, []int{want, 648, 0}) {
			t.Errorf("%d: %v", most, told)
		}
		if told := impl.CostTold(n, 1); !slices.Equal(told, []int{most, 0, 0}) {
			t.Errorf("%d: %v", most, told)
		}
		if of := impl.CostOf(n, 0); !slices.Equal(of, []int{3, 3, 18, 18, 108, 108, 648, 1, 0}) || impl.CostAll(n, 0) != 907 || impl.CostAll(n, 1) != 1 {
			t.Errorf("%d: %v", most, of)
		}
	}
}

// taken is how often each way was taken, of all that was done behind so many.
func taken(w impl.World, from int) []int {
	out := make([]int, len(w.Recvs))
	for _, d := range w.Log[from:] {
		if d.Kind == impl.DoTake {
			out[d.At]++
		}
	}
	return out
}

// toldOutside is how often each sink told something, of all that was told behind so many.
func toldOutside(w impl.World, from int) []int {
	out := make([]int, len(w.Net.Sinks))
	for _, x := range w.Out[from:] {
		out[x.Sink]++
	}
	return out
}

// noneIsMore says whether there are as many of both, and none of the first is more than its fellow.
func noneIsMore(list, most []int) bool {
	for i := range list {
		if i >= len(most) || list[i] > most[i] {
			return false
		}
	}
	return len(list) == len(most)
}

// costNets is nets of all kinds, on one node, on two and on three, and such as cost much.
func costNets(r *rand.Rand, size int) []impl.Net {
	return slices.Concat(wiredNets(r, size), livelyNets(r, size/3), []impl.Net{costlyNet(16), tripleNet(0, 1)})
}

// TestP48And49OneEventFromOutside lets one event at a time come from outside, and all calm down behind it.
func TestP48And49OneEventFromOutside(t *testing.T) {
	r := rand.New(rand.NewSource(48))
	pushed, took, told, all := 0, 0, 0, 0
	for _, n := range costNets(r, 60) {
		if len(n.Sources) == 0 {
			continue
		}
		w := impl.WorldNew(n)
		for range 4 {
			source := r.Intn(len(n.Sources))
			next, ok := impl.WorldDo(w, pushes(source, some32s(r, inSize(n, n.Sources[source]))...))
			if !ok {
				t.Fatalf("not pushed: %v", w)
			}
			next = impl.WorldCalm(next, 30)
			ways, sinks := taken(next, len(w.Log)), toldOutside(next, len(w.Out))
			costs, tolds := impl.CostOf(n, source), impl.CostTold(n, source)
			if !noneIsMore(ways, costs) || !noneIsMore(sinks, tolds) || sumOf(ways) > impl.CostAll(n, source) || costs[len(n.Wires)+source] != 1 {
				t.Fatalf("source %d: %v of %v taken, %v of %v told\n%s", source, ways, costs, sinks, tolds, wantNetText(n))
			}
			if w = next; !impl.WorldDone(w) {
				break
			}
			pushed++
			took += sumOf(ways)
			told += sumOf(sinks)
			all += bit(slices.Equal(ways, costs))
		}
	}
	if pushed < 150 || took < 500 || told < 150 || all < 50 {
		t.Errorf("%d pushed, %d taken, %d told, %d times all that it can cost", pushed, took, told, all)
	}
}

// TestP48And49CostsThatAreMet has nets in which one event costs just as much as it can, on all nodes.
func TestP48And49CostsThatAreMet(t *testing.T) {
	twin := mustNet(twinText)
	twin.Wires = append(twin.Wires, wire("p", "up", "r", "val"))
	for node := -1; node < impl.NodesMax; node++ {
		for i, n := range []impl.Net{twin, tripleNet(99, 0), costlyNet(1)} {
			n = impl.NetMove(n, node)
			w, _ := impl.WorldDo(impl.WorldNew(n), pushes(0))
			for range 5 {
				w = impl.WorldCalm(w, 60)
			}
			ways := taken(w, 0)
			if i == 2 {
				// Not all of it has room in the log.
				if len(w.Log) != impl.LogMax || !noneIsMore(ways, impl.CostOf(n, 0)) || !noneIsMore(toldOutside(w, 0), impl.CostTold(n, 0)) {
					t.Errorf("on %d: %v", node, ways)
				}
				continue
			}
			if !impl.WorldDone(w) || !slices.Equal(ways, impl.CostOf(n, 0)) || !slices.Equal(toldOutside(w, 0), impl.CostTold(n, 0)) || len(w.Log) != 1+impl.CostAll(n, 0) {
				t.Errorf("on %d: net %d: %v taken, %v told", node, i, ways, toldOutside(w, 0))
			}
		}
	}
}

func TestP50AllCostsNoLessThanEach(t *testing.T) {
	r := rand.New(rand.NewSource(50))
	sources, more := 0, 0
	for _, n := range costNets(r, 400) {
		keepsCosts(t, n)
		for source := range n.Sources {
			of, all := impl.CostOf(n, source), impl.CostAll(n, source)
			if all != min(sumOf(of), impl.CostMax) || all < 1 || all < slices.Max(of) || slices.Min(of) < 0 {
				t.Fatalf("all %d, of %v", all, of)
			}
			sources++
			more += bit(all > 3)
		}
	}
	if sources < 500 || more < 200 {
		t.Errorf("%d sources, %d cost more than 3", sources, more)
	}
}

func TestP51WithoutAWire(t *testing.T) {
	t.Parallel()
	r := rand.New(rand.NewSource(51))
	less, lower := 0, 0
	for _, n := range costNets(r, 90) {
		for at := range n.Wires {
			m := copyOf(n)
			m.Wires = slices.Delete(m.Wires, at, at+1)
			keepsCosts(t, m)
			if impl.CostDeep(m) > impl.CostDeep(n) {
				t.Fatalf("deeper without wire %d\n%s", at, wantNetText(n))
			}
			lower += bit(impl.CostDeep(m) < impl.CostDeep(n))
			for source := range n.Sources {
				if impl.CostAll(m, source) > impl.CostAll(n, source) || !noneIsMore(impl.CostTold(m, source), impl.CostTold(n, source)) {
					t.Fatalf("source %d costs more without wire %d\n%s", source, at, wantNetText(n))
				}
				less += bit(impl.CostAll(m, source) < impl.CostAll(n, source))
			}
		}
	}
	if less < 100 || lower < 50 {
		t.Errorf("%d cost less, %d are less deep", less, lower)
	}
}

func TestP52ChainsOfWires(t *testing.T) {
	t.Parallel()
	r := rand.New(rand.NewSource(52))
	deeps := map[int]int{}
	nets := costNets(r, 200)
	for range 100 {
		nets = append(nets, someNet(r))
	}
	for _, n := range nets {
		keepsCosts(t, n)
		deep := impl.CostDeep(n)
		if deep < 1 || deep > len(n.Uses) || (deep == 1) != (len(n.Wires) == 0) {
			t.Fatalf("%d deep\n%s", deep, wantNetText(n))
		}
		deeps[deep]++
		for node := -1; node < impl.NodesMax; node++ {
			m := impl.NetMove(n, node)
			if impl.CostDeep(m) != deep {
				t.Fatalf("%d deep on %d", impl.CostDeep(m), node)
			}
			for source := range n.Sources {
				if !slices.Equal(impl.CostOf(m, source), impl.CostOf(n, source)) || !slices.Equal(impl.CostTold(m, source), impl.CostTold(n, source)) {
					t.Fatalf("source %d costs something else on %d", source, node)
				}
			}
		}
	}
	for deep := 1; deep <= impl.UseMax; deep++ {
		if deeps[deep] < 10 {
			t.Errorf("%d deep only %d times", deep, deeps[deep])
		}
	}
}

func TestP48To52NetsThatAreNotOk(t *testing.T) {
	costsNothing(t, "nothing", impl.Net{})
	turns := []func(n *impl.Net){
		func(n *impl.Net) { n.Blocks[3].Name = "" },
		func(n *impl.Net) { n.Uses[4].Node = 3 },
		func(n *impl.Net) { n.Wires = append(n.Wires, wire("u1", "p", "u3", "f")) },
		func(n *impl.Net) { n.Wires[6].To.Event = "o" },
		func(n *impl.Net) { n.Sources = append(n.Sources, end("u2", "e")) },
		func(n *impl.Net) { n.Sinks[0] = n.Sinks[1] },
		func(n *impl.Net) { n.Wires[5] = wire("u4", "o", "u1", "e") },
		func(n *impl.Net) {
			n.Blocks[0].States[1].Acts[0] = impl.Act{Kind: impl.ActTell, Name: "o"}
		},
	}
	for i, turn := range turns {
		n := starNet()
		turn(&n)
		if wantNetCheck(n) == impl.NetFine {
			t.Fatalf("turn %d: the net is ok", i)
		}
		costsNothing(t, fmt.Sprint("turn ", i), n)
	}
}
