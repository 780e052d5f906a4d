package tests

import (
	"math/rand"
	"slices"
	"strings"
	"testing"

	"loop.example/telltale/impl"
)

// fullPlant is a plant with something everywhere. It could not have come to be, but is ok.
func fullPlant() impl.Plant {
	return impl.Plant{
		World: fullWorld(),
		Saved: []impl.Part{
			{
				Insts: []impl.Inst{inst(0, 8, highest), inst(2, 1, 2, 3, lowest)},
				Sends: []impl.Send{sender(3, lists(7, lowest)...)},
				Recvs: []impl.Recv{receiver(9000, lists(8, 9)...), receiver(2, nil)},
				Log:   1, Out: 1,
			},
			{
				Insts: []impl.Inst{inst(1, 9, 9, 9, 9), inst(0, 0, 1, 0, 1)},
				Sends: []impl.Send{{}, {}, sender(9999)},
				Recvs: []impl.Recv{receiver(4), receiver(1), receiver(5, lists(1, 2, 3)...), receiver(7, []int{3, 4})},
				Log:   2, Out: 0,
			},
			{},
		},
	}
}

// isNoPlant asks that a plant that is not ok is nothing to all that asks for one.
func isNoPlant(t *testing.T, name string, p impl.Plant) {
	t.Helper()
	h := hand(p)
	if impl.PlantOk(h.now) || impl.PlantSafe(h.now) || len(impl.PlantTold(h.now)) > 0 {
		t.Errorf("%s: it is ok, or safe, or told something", name)
	}
	for _, e := range []impl.Event{{}, pushes(0), pushes(1, 1, 2), takes(0), takes(4), ticks(0), ticks(3), brings(0), keeps(0), loses(0), spoils(0, 0), saves(0), saves(2), saves(3), falls(0), falls(1), falls(2), falls(-1)} {
		if got, ok := impl.PlantDo(h.now, e); ok || !same(got, impl.Plant{}) {
			t.Errorf("%s: %v: %v %v", name, e, ok, got)
		}
	}
	if !h.isUntouched() {
		t.Errorf("%s: an argument was written", name)
	}
}

// isNoPlantOf asks that there is no plant of a net that is not ok.
func isNoPlantOf(t *testing.T, name string, n impl.Net) {
	t.Helper()
	if got := impl.PlantNew(n); !same(got, impl.Plant{}) {
		t.Errorf("%s: a new plant: %v", name, got)
	}
	for _, list := range [][]impl.Event{nil, {pushes(0)}, {ticks(0), falls(0)}} {
		if got := impl.PlantPlay(n, list); !same(got, impl.Plant{}) {
			t.Errorf("%s: played: %v", name, got)
		}
	}
	for _, story := range []string{"", "push 0\n", "tick 0\nfall 0\n", "what\n"} {
		if got, ok := impl.StoryRun(n, story); ok || !same(got, impl.Plant{}) {
			t.Errorf("%s: %q: %v %v", name, story, ok, got)
		}
	}
}

func TestP63NewPlants(t *testing.T) {
	if impl.PlantSave != 8 || impl.PlantFall != 9 {
		t.Error("a kind is another one")
	}
	n := mustNet(halfText)
	want := impl.Plant{World: impl.WorldNew(n), Saved: []impl.Part{
		{Insts: []impl.Inst{inst(0, 0, 0), inst(0, 0, 0, 0, 0)}, Sends: make([]impl.Send, 1), Recvs: make([]impl.Recv, 2)},
		{Insts: []impl.Inst{inst(0, 0, 0, 0, 0), inst(0, 0, 0, 0, 0)}, Sends: make([]impl.Send, 3), Recvs: make([]impl.Recv, 4)},
		{},
	}}
	if p := impl.PlantNew(n); !same(p, want) {
		t.Errorf("%v, not %v", p, want)
	}
	least := mustNet("block a\nvar x -7\nstate b\nuse c a 2\n")
	if p := impl.PlantNew(least); !same(p, impl.Plant{World: impl.WorldNew(least), Saved: []impl.Part{{}, {}, {Insts: []impl.Inst{inst(0, -7)}}}}) || !impl.PlantOk(p) || !impl.PlantSafe(p) {
		t.Error(p)
	}
	isNoPlant(t, "no plant", impl.Plant{})
	isNoPlantOf(t, "no net", impl.Net{})
	n.Uses[1].Node = 3
	isNoPlantOf(t, "a node too great", n)
	isNoPlant(t, "a node too great", impl.Plant{World: impl.World{Net: n}, Saved: make([]impl.Part, 3)})
}

func TestP63NewPlantsAsPromised(t *testing.T) {
	t.Parallel()
	r := rand.New(rand.NewSource(63))
	bare := 0
	for i := range 300 {
		n := someNet(r)
		if i%3 > 0 {
			n = impl.NetMove(n, r.Intn(4)-1)
		}
		h := hand(n)
		p := impl.PlantNew(h.now)
		if want := wantPlantNew(n); !same(p, want) || !same(p.World, impl.WorldNew(n)) || !impl.PlantOk(p) || !impl.PlantSafe(p) || len(impl.PlantTold(p)) > 0 || !same(impl.PlantPlay(n, nil), p) {
			t.Fatalf("%v, not %v", p, want)
		}
		if !h.isUntouched() || !areApart(h.now, p, impl.PlantPlay(h.now, nil)) {
			t.Fatal("an argument was written, or memory is shared")
		}
		for node := range 3 {
			bare += bit(len(p.Saved[node].Insts) == 0)
			if got := befalls(t, p, falls(node)); !same(got, p) {
				t.Fatalf("%d fell: %v, from %v", node, got, p)
			}
		}
	}
	if bare < 100 {
		t.Errorf("%d nodes without blocks", bare)
	}
}

func TestP64WhatAPlantCanBe(t *testing.T) {
	cases := []struct {
		name string
		turn func(p *impl.Plant)
		want bool
	}{
		{"as it is", func(p *impl.Plant) {}, true},
		{"nothing", func(p *impl.Plant) { *p = impl.Plant{} }, false},
		{"no world", func(p *impl.Plant) { p.World = impl.World{} }, false},
		{"a world that is not ok", func(p *impl.Plant) { p.World.Sends[1].Base = 1 }, false},
		{"too much under way", func(p *impl.Plant) { p.World.Radio = make([]string, 41) }, false},
		{"too long under way", func(p *impl.Plant) { p.World.Radio[0] = strings.Repeat("1", 81) }, false},
		{"another net", func(p *impl.Plant) { p.World = impl.WorldNew(mustNet(twinText)) }, false},
		{"a new world", func(p *impl.Plant) { p.World = impl.WorldNew(p.World.Net) }, false},
		{"a block on another node", func(p *impl.Plant) { p.World.Net.Uses[2].Node = 2 }, false},
		{"no pictures", func(p *impl.Plant) { p.Saved = nil }, false},
		{"a picture less", func(p *impl.Plant) { p.Saved = p.Saved[:2] }, false},
		{"a picture more", func(p *impl.Plant) { p.Saved = append(p.Saved, impl.Part{}) }, false},
		{"six pictures", func(p *impl.Plant) { p.Saved = append(p.Saved, p.Saved...) }, false},
		{"pictures of other nodes", func(p *impl.Plant) { p.Saved[0], p.Saved[1] = p.Saved[1], p.Saved[0] }, false},
		{"pictures of nodes with as much", func(p *impl.Plant) { p.Saved[1] = impl.Part{} }, false},
		{"an empty picture", func(p *impl.Plant) { p.Saved[0] = impl.Part{} }, false},
		{"no insts", func(p *impl.Plant) { p.Saved[0].Insts = nil }, false},
		{"an inst less", func(p *impl.Plant) { p.Saved[1].Insts = p.Saved[1].Insts[:1] }, false},
		{"an inst more", func(p *impl.Plant) { p.Saved[0].Insts = append(p.Saved[0].Insts, inst(0, 0, 0, 0, 0)) }, false},
		{"an inst of a node without blocks", func(p *impl.Plant) { p.Saved[2].Insts = []impl.Inst{inst(0)} }, false},
		{"insts in another order", func(p *impl.Plant) { slices.Reverse(p.Saved[0].Insts) }, false},
		{"insts of one kind in another order", func(p *impl.Plant) { slices.Reverse(p.Saved[1].Insts) }, true},
		{"an inst in no state", func(p *impl.Plant) { p.Saved[0].Insts[0].State = 2 }, false},
		{"an inst in state -1", func(p *impl.Plant) { p.Saved[1].Insts[1].State = -1 }, false},
		{"an inst in its last state", func(p *impl.Plant) { p.Saved[1].Insts[1].State = 2 }, true},
		{"an inst in a state behind its last", func(p *impl.Plant) { p.Saved[1].Insts[1].State = 3 }, false},
		{"a value of an inst less", func(p *impl.Plant) { p.Saved[0].Insts[1].Vals = p.Saved[0].Insts[1].Vals[:3] }, false},
		{"a value of an inst more", func(p *impl.Plant) { p.Saved[0].Insts[0].Vals = []int{1, 2, 3} }, false},
		{"a value of an inst too great", func(p *impl.Plant) { p.Saved[0].Insts[0].Vals[1]++ }, false},
		{"a value of an inst too small", func(p *impl.Plant) { p.Saved[0].Insts[1].Vals[3]-- }, false},
		{"no sends", func(p *impl.Plant) { p.Saved[0].Sends = nil }, false},
		{"a send less", func(p *impl.Plant) { p.Saved[1].Sends = p.Saved[1].Sends[:2] }, false},
		{"sends that cross alone", func(p *impl.Plant) { p.Saved[1].Sends = p.Saved[1].Sends[2:] }, false},
		{"a send more", func(p *impl.Plant) { p.Saved[0].Sends = append(p.Saved[0].Sends, impl.Send{}) }, false},
		{"a send of a node without blocks", func(p *impl.Plant) { p.Saved[2].Sends = make([]impl.Send, 1) }, false},
		{"three wait", func(p *impl.Plant) { p.Saved[0].Sends[0] = sender(9996, lists(1, 2, 3)...) }, true},
		{"three wait, one behind the last number", func(p *impl.Plant) { p.Saved[0].Sends[0] = sender(9997, lists(1, 2, 3)...) }, false},
		{"four wait", func(p *impl.Plant) { p.Saved[0].Sends[0] = sender(0, lists(1, 2, 3, 4)...) }, false},
		{"what waits has no values", func(p *impl.Plant) { p.Saved[0].Sends[0].Wait[1] = nil }, false},
		{"what waits has two values", func(p *impl.Plant) { p.Saved[0].Sends[0].Wait[0] = []int{1, 2} }, false},
		{"what waits is too small", func(p *impl.Plant) { p.Saved[0].Sends[0].Wait[1][0]-- }, false},
		{"a number below 0", func(p *impl.Plant) { p.Saved[0].Sends[0].Base = -1 }, false},
		{"a number too great", func(p *impl.Plant) { p.Saved[1].Sends[2].Base++ }, false},
		{"a number on a wire that stays", func(p *impl.Plant) { p.Saved[1].Sends[0].Base = 1 }, false},
		{"something waits on a wire that stays", func(p *impl.Plant) { p.Saved[1].Sends[1].Wait = lists(1) }, false},
		{"sends in another order", func(p *impl.Plant) { slices.Reverse(p.Saved[1].Sends) }, false},
		{"no recvs", func(p *impl.Plant) { p.Saved[1].Recvs = nil }, false},
		{"a recv less", func(p *impl.Plant) { p.Saved[0].Recvs = p.Saved[0].Recvs[:1] }, false},
		{"recvs of wires alone", func(p *impl.Plant) { p.Saved[1].Recvs = p.Saved[1].Recvs[:3] }, false},
		{"a recv more", func(p *impl.Plant) { p.Saved[1].Recvs = append(p.Saved[1].Recvs, impl.Recv{}) }, false},
		{"a recv of a node without blocks", func(p *impl.Plant) { p.Saved[2].Recvs = make([]impl.Recv, 1) }, false},
		{"recvs in another order", func(p *impl.Plant) { slices.Reverse(p.Saved[0].Recvs) }, false},
		{"three came", func(p *impl.Plant) { p.Saved[0].Recvs[1] = receiver(9999, nil, nil, nil) }, true},
		{"four came", func(p *impl.Plant) { p.Saved[0].Recvs[1] = receiver(9999, nil, nil, nil, nil) }, false},
		{"more came than numbers", func(p *impl.Plant) { p.Saved[1].Recvs[2].Next = 2 }, false},
		{"what came has no values", func(p *impl.Plant) { p.Saved[1].Recvs[3].List[0] = nil }, false},
		{"what came has a value", func(p *impl.Plant) { p.Saved[0].Recvs[1].List[0] = []int{1} }, false},
		{"what came is too great", func(p *impl.Plant) { p.Saved[1].Recvs[3].List[0][1] = highest + 1 }, false},
		{"a next below 0", func(p *impl.Plant) { p.Saved[1].Recvs[0].Next = -1 }, false},
		{"a next too great", func(p *impl.Plant) { p.Saved[1].Recvs[0].Next = 10000 }, false},
		{"the last next", func(p *impl.Plant) { p.Saved[1].Recvs[0].Next = 9999 }, true},
		{"nothing done", func(p *impl.Plant) { p.Saved[0].Log, p.Saved[1].Log = 0, 0 }, true},
		{"all done", func(p *impl.Plant) { p.Saved[0].Log, p.Saved[1].Log = 3, 3 }, true},
		{"one more done than there is", func(p *impl.Plant) { p.Saved[0].Log = 4 }, false},
		{"one more done than there is, elsewhere", func(p *impl.Plant) { p.Saved[1].Log = 4 }, false},
		{"something done without blocks", func(p *impl.Plant) { p.Saved[2].Log = 1 }, false},
		{"less than nothing done", func(p *impl.Plant) { p.Saved[1].Log = -1 }, false},
		{"less than nothing done without blocks", func(p *impl.Plant) { p.Saved[2].Log = -1 }, false},
		{"the least done", func(p *impl.Plant) { p.Saved[0].Log = -1 << 63 }, false},
		{"the most done", func(p *impl.Plant) { p.Saved[0].Log = 1<<63 - 1 }, false},
		{"done beyond 32 bits", func(p *impl.Plant) { p.Saved[0].Log = 1<<32 + 1 }, false},
		{"nothing told", func(p *impl.Plant) { p.Saved[0].Out = 0 }, true},
		{"all told", func(p *impl.Plant) { p.Saved[0].Out, p.Saved[1].Out = 2, 1 }, true},
		{"one more told than there is", func(p *impl.Plant) { p.Saved[0].Out = 3 }, false},
		{"one more told than there is, elsewhere", func(p *impl.Plant) { p.Saved[1].Out = 2 }, false},
		{"something told without blocks", func(p *impl.Plant) { p.Saved[2].Out = 1 }, false},
		{"less than nothing told", func(p *impl.Plant) { p.Saved[0].Out = -1 }, false},
		{"the least told", func(p *impl.Plant) { p.Saved[1].Out = -1 << 63 }, false},
		{"the most told", func(p *impl.Plant) { p.Saved[1].Out = 1<<63 - 1 }, false},
		{"less done in the world than is to stay", func(p *impl.Plant) { p.World.Log = p.World.Log[4:] }, false},
		{"just as much done in the world as is to stay", func(p *impl.Plant) { p.World.Log = p.World.Log[:3] }, true},
		{"less told in the world than is to stay", func(p *impl.Plant) { p.World.Out = p.World.Out[1:2] }, false},
	}
	for _, c := range cases {
		p := fullPlant()
		c.turn(&p)
		h := hand(p)
		if got := impl.PlantOk(h.now); got != c.want || impl.NetCheck(p.World.Net) == 0 && got != wantPlantOk(p) || !h.isUntouched() {
			t.Errorf("%s: %v, not %v", c.name, got, c.want)
		}
		if !c.want {
			isNoPlant(t, c.name, p)
			continue
		}
		for _, e := range []impl.Event{pushes(0), pushes(1, 1, 2), takes(0), takes(3), ticks(1), ticks(2), brings(0), keeps(5), loses(2), spoils(2, 80), saves(0), saves(1), saves(2), falls(0), falls(1), falls(2)} {
			befalls(t, p, e)
		}
		if got := impl.PlantTold(h.now); !same(got, wantPlantTold(p)) || impl.PlantSafe(h.now) != wantPlantSafe(p) || !h.isUntouched() || !areApart(h.now, got) {
			t.Errorf("%s: told %v", c.name, got)
		}
	}
}

// wrongPlant changes one thing of a plant, mostly for the worse.
func wrongPlant(r *rand.Rand, p *impl.Plant) {
	far := []int{-1, 0, 1, 2, 3, 9998, 9999, 10000, 1 << 32, -1 << 63, 1<<63 - 1}[r.Intn(11)]
	x := &p.Saved[r.Intn(3)]
	switch r.Intn(10) {
	case 0:
		wrongWorld(r, &p.World)
	case 1:
		p.Saved = p.Saved[:r.Intn(4)]
	case 2:
		x.Log = []int{far, x.Log + 1, x.Log - 1}[r.Intn(3)]
	case 3:
		x.Out = []int{far, x.Out + 1, x.Out - 1}[r.Intn(3)]
	case 4:
		x.Sends = append(x.Sends, make([]impl.Send, r.Intn(2))...)
	case 5:
		x.Recvs = append(x.Recvs, make([]impl.Recv, r.Intn(2))...)
	case 6:
		x.Insts = x.Insts[:r.Intn(len(x.Insts)+1)]
	case 7:
		for i := range x.Insts {
			x.Insts[i] = []impl.Inst{inst(far, x.Insts[i].Vals...), inst(x.Insts[i].State, someValues(r, len(x.Insts[i].Vals))...)}[r.Intn(2)]
		}
	case 8:
		for i := range x.Sends {
			x.Sends[i].Base = []int{x.Sends[i].Base, far}[r.Intn(2)]
		}
	case 9:
		for i := range x.Recvs {
			x.Recvs[i] = []impl.Recv{{Next: far, List: x.Recvs[i].List}, {Next: x.Recvs[i].Next, List: append(x.Recvs[i].List, []int{0})}}[r.Intn(2)]
		}
	}
}

func TestP64PlantsThatCannotBeSo(t *testing.T) {
	t.Parallel()
	r := rand.New(rand.NewSource(64))
	seen := map[bool]int{}
	for _, n := range wiredNets(r, 250) {
		for range 6 {
			p := copyOf(somePlant(r, n))
			if !impl.PlantOk(p) {
				t.Fatalf("%v is not ok\n%s", p, wantNetText(n))
			}
			wrongPlant(r, &p)
			want := wantPlantOk(p)
			seen[want]++
			if got := impl.PlantOk(p); got != want {
				t.Fatalf("%v, not %v: %v\n%s", got, want, p, wantNetText(p.World.Net))
			}
			if got, ok := impl.PlantDo(p, somePlantEvent(r, p)); !want && (ok || !same(got, impl.Plant{}) || impl.PlantSafe(p) || len(impl.PlantTold(p)) > 0) {
				t.Fatalf("%v %v", ok, got)
			}
		}
	}
	if seen[true] < 200 || seen[false] < 200 {
		t.Error(seen)
	}
}

func TestP64WhatCannotBe(t *testing.T) {
	p := fullPlant()
	var list []impl.Event
	for kind := range 12 {
		for _, far := range []int{-1 << 63, -1 << 32, -2, -1, 6, 7, 1 << 32, 1<<32 + 1, 1<<63 - 1} {
			list = append(list, impl.Event{Kind: kind, At: far}, impl.Event{Kind: kind, At: far, Vals: []int{1, 2}})
		}
	}
	for _, kind := range []int{0, -1, -8, -9, 10, 11, 1<<32 + 8, 1<<32 + 9, -1 << 63, 1<<63 - 1} {
		list = append(list, impl.Event{Kind: kind}, impl.Event{Kind: kind, At: 1, Vals: []int{1, 2}})
	}
	list = append(list, ticks(3), saves(3), falls(3), saves(4), falls(5), pushes(2), pushes(0, 1), pushes(1, 1), takes(1), takes(2), spoils(1, 0), spoils(0, -1))
	for _, e := range list {
		if got, ok := keepsPlantDo(t, p, e); ok || !same(got, p) {
			t.Errorf("%v: %v %v", e, ok, got)
		}
	}
	if got := impl.PlantPlay(p.World.Net, list); !same(got, impl.PlantNew(p.World.Net)) {
		t.Error(got)
	}
}

// TestP64WhatCanBe has each kind of events that is of plants alone, and a tick, with each node.
func TestP64WhatCanBe(t *testing.T) {
	p := fullPlant()
	now := []impl.Part{
		{
			Insts: []impl.Inst{inst(1, 2, 3), inst(0, 0, 0, 0, 0)},
			Sends: []impl.Send{sender(4, lists(1, highest)...)},
			Recvs: []impl.Recv{receiver(9998, lists(5, 6)...), receiver(2, nil, nil)},
			Log:   3, Out: 2,
		},
		{
			Insts: []impl.Inst{inst(0, 4, 5, 6, 7), inst(2, lowest, highest, 0, 1)},
			Sends: []impl.Send{{}, {}, sender(9998, []int{lowest})},
			Recvs: []impl.Recv{receiver(5, []int{2}), receiver(3, lists(1, 2)...), receiver(9998, []int{4}), receiver(9998, []int{1, 2})},
			Log:   3, Out: 1,
		},
		{},
	}
	cases := []struct {
		name string
		e    impl.Event
		turn func(p *impl.Plant)
	}{
		{"a save", saves(0), func(p *impl.Plant) { p.Saved[0] = now[0] }},
		{"a save of another node", saves(1), func(p *impl.Plant) { p.Saved[1] = now[1] }},
		{"a save without blocks", saves(2), func(p *impl.Plant) {}},
		{"numbers and values do not matter to a save", impl.Event{Kind: impl.PlantSave, At: 1, Num: -5, Vals: []int{1 << 40}}, func(p *impl.Plant) { p.Saved[1] = now[1] }},
		{"a tick", ticks(0), func(p *impl.Plant) {
			p.Saved[0] = now[0]
			p.World.Radio = append(p.World.Radio, wantFrameText(data(0, 4, 1)), wantFrameText(data(0, 5, highest)), wantFrameText(ack(3, 9998)))
		}},
		{"a tick of another node", ticks(1), func(p *impl.Plant) {
			p.Saved[1] = now[1]
			p.World.Radio = append(p.World.Radio, wantFrameText(ack(0, 5)), wantFrameText(data(3, 9998, lowest)))
		}},
		{"a tick without blocks", ticks(2), func(p *impl.Plant) {}},
		{"a fall", falls(0), func(p *impl.Plant) {
			p.World.Insts[0], p.World.Insts[3] = inst(0, 8, highest), inst(2, 1, 2, 3, lowest)
			p.World.Sends[0] = sender(3, lists(7, lowest)...)
			p.World.Recvs[3], p.World.Recvs[4] = receiver(9000, lists(8, 9)...), receiver(2, nil)
			p.World.Log = []impl.Do{push(0), push(1, lowest, highest), take(0), take(5)}
			p.World.Out = []impl.Said{said(0, 9), said(1, highest)}
		}},
		{"a fall of another node", falls(1), func(p *impl.Plant) {
			p.World.Insts[1], p.World.Insts[2] = inst(1, 9, 9, 9, 9), inst(0, 0, 1, 0, 1)
			p.World.Sends[3] = sender(9999)
			p.World.Recvs[0], p.World.Recvs[1], p.World.Recvs[2] = receiver(4), receiver(1), receiver(5, lists(1, 2, 3)...)
			p.World.Recvs[5] = receiver(7, []int{3, 4})
			p.World.Log = []impl.Do{push(0), push(1, lowest, highest), take(0), push(0), take(3)}
			p.World.Out = []impl.Said{said(0, 9), said(0, lowest)}
		}},
		{"a fall without blocks", falls(2), func(p *impl.Plant) {}},
		{"numbers and values do not matter to a fall", impl.Event{Kind: impl.PlantFall, At: 2, Num: 1 << 40, Vals: []int{1}}, func(p *impl.Plant) {}},
		{"what comes", brings(0), func(p *impl.Plant) {
			p.World.Recvs[0] = receiver(6, lists(2, 9)...)
			p.World.Radio = p.World.Radio[1:]
		}},
	}
	for _, c := range cases {
		want := copyOf(p)
		c.turn(&want)
		if got, ok := keepsPlantDo(t, p, c.e); !ok || !same(got, want) {
			t.Errorf("%s: %v %v, not %v", c.name, ok, got, want)
		}
	}
	p.World.Radio = slices.Repeat([]string{""}, 40)
	if got := befalls(t, p, ticks(1)); len(got.World.Radio) != 40 || !same(got.Saved[1], now[1]) {
		t.Error("a tick without room", got)
	}
}

func TestP64WhateverHappens(t *testing.T) {
	t.Parallel()
	r := rand.New(rand.NewSource(65))
	done := map[int]int{}
	for i, n := range slices.Concat(wiredNets(r, 50), livelyNets(r, 60)) {
		p := somePlant(r, n)
		if i%3 == 0 {
			_, p = somePlantStory(r, n, r.Intn(80))
		}
		for range 12 {
			e := somePlantEvent(r, p)
			next, ok := keepsPlantDo(t, p, e)
			done[e.Kind*bit(ok)]++
			h := hand(next)
			if told := impl.PlantTold(h.now); !same(told, wantPlantTold(next)) || impl.PlantSafe(h.now) != wantPlantSafe(next) || !h.isUntouched() || !areApart(h.now, told) {
				t.Fatalf("told %v, not %v; safe, or not: %v", told, wantPlantTold(next), next)
			}
			p = next
		}
	}
	for kind := range 10 {
		if done[kind] < 5 {
			t.Error(done)
		}
	}
}

// TestP64ToldOutsideUpToItsLimit lets a node fall when no more was told outside for want of room: what another node told then is gone, and the plant says so.
func TestP64ToldOutsideUpToItsLimit(t *testing.T) {
	four := strings.Repeat("tell o\n", 4)
	n := mustNet("block m\nin e\nout o\nstate s\non e a 1\nstate a\non - b 1\n" + four + "state b\non - s 1\n" + four + "use p m 0\nuse q m 1\nsource p.e\nsource q.e\nsink p.o\nsink q.o\n")
	for size := 23; size <= 26; size++ {
		var list []impl.Event
		for range size {
			list = append(list, pushes(0), takes(0))
		}
		p := impl.PlantPlay(n, append(list, pushes(1), takes(1), saves(1)))
		told := min(8, 200-8*min(25, size))
		if p.Saved[1].Out != told || len(p.World.Out) != min(200, 8*size+8) || !impl.PlantOk(p) || !impl.WorldSafe(p.World) {
			t.Errorf("%d: %v", size, p)
		}
		fell := befalls(t, p, falls(0))
		if !same(fell.World.Out, slices.Repeat([]impl.Said{said(1)}, told)) || impl.PlantSafe(p) != (told == 8) || impl.PlantSafe(fell) != (told == 8) || !same(impl.PlantTold(fell), impl.PlantTold(p)) {
			t.Errorf("%d: %v fell", size, fell)
		}
	}
}

func TestP65WhatIsPlayedIsDoneOneByOne(t *testing.T) {
	r := rand.New(rand.NewSource(66))
	for _, n := range slices.Concat(wiredNets(r, 25), livelyNets(r, 25)) {
		size := []int{r.Intn(80), 79, 80, 81, 100}[r.Intn(5)]
		list, _ := somePlantStory(r, n, size)
		hn, hl := hand(n), hand(list)
		got := impl.PlantPlay(hn.now, hl.now)
		want := impl.PlantNew(n)
		for _, e := range list[:min(80, size)] {
			want, _ = impl.PlantDo(want, e)
		}
		if !same(got, want) {
			t.Fatalf("%v, not %v\n%v\n%s", got, want, list, wantNetText(n))
		}
		if !hn.isUntouched() || !hl.isUntouched() || !areApart(hn.now, hl.now, got) {
			t.Fatal("an argument was written, or memory is shared")
		}
	}
}

// TestP65TheFirst80 has something to do as the 80th and as the 81st event; those that cannot be count, too.
func TestP65TheFirst80(t *testing.T) {
	n := mustNet(twinText)
	for size := range 90 {
		list := append(slices.Repeat([]impl.Event{falls(3)}, size), pushes(0), saves(0), pushes(0))
		p := impl.PlantPlay(n, list)
		if done := max(0, min(3, 80-size)); len(p.World.Log) != []int{0, 1, 1, 2}[done] || p.Saved[0].Log != bit(done > 1) || !impl.PlantSafe(p) {
			t.Errorf("%d: %v", size, p)
		}
	}
	for size := 78; size <= 82; size++ {
		list := append(slices.Repeat([]impl.Event{pushes(0)}, size), falls(0))
		if p := impl.PlantPlay(n, list); len(p.World.Log) != 3*bit(size > 79) {
			t.Errorf("%d: %v", size, p.World.Log)
		}
	}
	if p := impl.PlantPlay(n, slices.Repeat([]impl.Event{pushes(0), takes(2), ticks(0), brings(0), falls(1), takes(0), falls(0), ticks(1)}, 100000)); len(p.World.Log) > 80 || !impl.PlantSafe(p) {
		t.Error(p.World.Log)
	}
}

// TestP66FallsAnywhere lets each node fall, or be saved and fall, once or twice, at each place of a story of frames that are late, lost, doubled and spoilt.
func TestP66FallsAnywhere(t *testing.T) {
	list := mishaps()
	for _, nodes := range [][3]int{{0, 1, 2}, {0, 1, 0}, {0, 0, 1}, {2, 1, 1}, {1, 1, 1}} {
		n := mustNet(twinText)
		for use, node := range nodes {
			n.Uses[use].Node = node
		}
		for place := range len(list) + 1 {
			for node := range 3 {
				for _, more := range [][]impl.Event{{falls(node)}, {falls(node), falls(node)}, {saves(node), falls(node)}, {falls(node), saves((node + 1) % 3), falls((node + 2) % 3)}} {
					events := slices.Insert(slices.Clone(list), place, more...)
					p := impl.PlantPlay(n, events)
					one := impl.OneRun(n, p.World.Log)
					if !impl.PlantOk(p) || !impl.PlantSafe(p) || !impl.WorldSafe(p.World) || !same(p.World.Insts, one.Insts) || !same(p.World.Out, one.Out) {
						t.Fatalf("%v at %d: %v, not %v", more, place, p, one)
					}
				}
			}
		}
	}
}

func TestP66AsPromised(t *testing.T) {
	t.Parallel()
	r := rand.New(rand.NewSource(67))
	told, fell, kept := 0, 0, 0
	for _, n := range slices.Concat(wiredNets(r, 100), livelyNets(r, 200)) {
		list, _ := somePlantStory(r, n, 80)
		p := impl.PlantPlay(n, list)
		if !impl.PlantOk(p) || !impl.PlantSafe(p) || !impl.WorldSafe(p.World) || !wantPlantOk(p) || !wantPlantSafe(p) {
			t.Fatalf("%v\n%v\n%s", p, list, wantNetText(n))
		}
		for node := range 3 {
			x, ok := impl.PlantDo(p, falls(node))
			if !ok || !impl.PlantSafe(x) {
				t.Fatalf("%d fell: %v", node, x)
			}
			fell += len(p.World.Log) - len(x.World.Log)
		}
		told += len(p.World.Out)
		kept += len(impl.PlantTold(p))
	}
	if told < 200 || fell < 200 || kept < 100 || kept >= told {
		t.Errorf("%d told, %d fell, %d kept", told, fell, kept)
	}
}

// TestP66NoPlantThatIsNotSo changes one thing of a plant that is safe, by which it is not any more, but still ok.
func TestP66NoPlantThatIsNotSo(t *testing.T) {
	n := mustNet(twinText)
	p := impl.PlantPlay(n, []impl.Event{pushes(0), takes(2), ticks(0), brings(0), brings(0), takes(0), takes(0), ticks(1), pushes(0), brings(1), brings(1), brings(0), takes(1), saves(2), takes(1)})
	if !impl.PlantSafe(p) || !same(p.Saved[2].Recvs, []impl.Recv{receiver(2, []int{11})}) || p.Saved[0].Log != 2 || p.Saved[1].Log != 2 || len(p.World.Out) != 2 || len(p.World.Log) != 7 {
		t.Fatal(p)
	}
	cases := []struct {
		name string
		turn func(p *impl.Plant)
		want bool
	}{
		{"as it is", func(p *impl.Plant) {}, true},
		{"a state", func(p *impl.Plant) { p.Saved[0].Insts[0].State = 1 }, false},
		{"a value", func(p *impl.Plant) { p.Saved[1].Insts[0].Vals[1]++ }, false},
		{"a value of the last node", func(p *impl.Plant) { p.Saved[2].Insts[0].Vals[0]-- }, false},
		{"what waits came, and is not needed any more", func(p *impl.Plant) { p.Saved[0].Sends[0] = sender(2) }, true},
		{"what waits has another number", func(p *impl.Plant) { p.Saved[0].Sends[0].Base = 1 }, false},
		{"something waits, too", func(p *impl.Plant) { p.Saved[1].Sends[0].Wait = lists(1, 11, 2) }, false},
		{"what came is gone", func(p *impl.Plant) { p.Saved[2].Recvs[0].List = nil }, false},
		{"what came is another one", func(p *impl.Plant) { p.Saved[2].Recvs[0].List[0][0]++ }, false},
		{"one done less", func(p *impl.Plant) { p.Saved[1].Log-- }, false},
		{"one done more", func(p *impl.Plant) { p.Saved[0].Log++ }, false},
		{"one told less", func(p *impl.Plant) { p.Saved[2].Out-- }, false},
		{"one told more", func(p *impl.Plant) { p.Saved[2].Out++ }, false},
		{"all as it was at first", func(p *impl.Plant) { p.Saved = impl.PlantNew(n).Saved }, false},
		{"one node as it was at first", func(p *impl.Plant) { p.Saved[0] = impl.PlantNew(n).Saved[0] }, false},
		{"the last node as it was at first", func(p *impl.Plant) { p.Saved[2] = impl.PlantNew(n).Saved[2] }, true},
		{"a world that is not so", func(p *impl.Plant) { p.World.Insts[2].Vals[1]++ }, false},
	}
	for _, c := range cases {
		x := copyOf(p)
		c.turn(&x)
		h := hand(x)
		if got := impl.PlantSafe(h.now); got != c.want || got != wantPlantSafe(x) || !impl.PlantOk(x) || !h.isUntouched() {
			t.Errorf("%s: %v, not %v: %v", c.name, got, c.want, x)
		}
	}
}

// TestP66AFallBehindATickIsNotSeen has a node that tells others what it was not saved with, if a tick does not save it first.
func TestP66AFallBehindATickIsNotSeen(t *testing.T) {
	p := befalls(t, impl.PlantNew(mustNet(twinText)), pushes(0), takes(2))
	if fell := befalls(t, p, falls(0)); !same(fell, impl.PlantNew(p.World.Net)) || p.Saved[0].Log != 0 {
		t.Error("a fall before anything was saved", fell)
	}
	p = befalls(t, p, ticks(0))
	if p.Saved[0].Log != 2 || len(p.World.Radio) != 2 || !same(p.Saved[0].Sends, p.World.Sends[:1]) || !same(befalls(t, p, falls(0)), p) {
		t.Error("a fall behind a tick", p)
	}
	// It came over, and the node that told it goes on, falls, and does the same anew by what comes next.
	p = befalls(t, p, brings(0), brings(0), takes(0), pushes(0), ticks(2), falls(0), pushes(0), falls(2))
	if len(p.World.Log) != 4 || !same(p.World.Recvs[0], receiver(2, []int{1})) || !same(p.World.Recvs[2], receiver(2, nil)) || !impl.PlantSafe(p) {
		t.Error("a fall behind what came over", p)
	}
	// The other one has not told that it came: it may fall, and it is told anew.
	p = befalls(t, p, falls(1))
	if len(p.World.Log) != 3 || !same(p.World.Recvs[0], impl.Recv{}) || !same(p.World.Insts[1], inst(0, 0, 0)) || !impl.PlantSafe(p) {
		t.Error("a fall of the other", p)
	}
	if end := impl.WorldCalm(p.World, 20); !impl.WorldDone(end) || !same(end.Out, []impl.Said{said(0, 1), said(0, 21), said(0, 322), said(0, 4342)}) {
		t.Error("the end", end)
	}
}

func TestP67WhatIsSavedIsNotLost(t *testing.T) {
	t.Parallel()
	r := rand.New(rand.NewSource(68))
	changed := 0
	for i, n := range slices.Concat(wiredNets(r, 60), livelyNets(r, 60)) {
		p := somePlant(r, n)
		if i%3 == 0 {
			_, p = somePlantStory(r, n, r.Intn(80))
		}
		for node := range 3 {
			saved := befalls(t, p, saves(node))
			if !same(saved.World, p.World) {
				t.Fatalf("%d was saved: %v, from %v", node, saved, p)
			}
			if fell := befalls(t, saved, falls(node)); !same(fell, saved) {
				t.Fatalf("%d fell: %v, from %v", node, fell, saved)
			}
			fell := befalls(t, p, falls(node))
			if again := befalls(t, fell, falls(node)); !same(again, fell) || !same(fell.Saved, p.Saved) {
				t.Fatalf("%d fell twice: %v, and %v, from %v", node, fell, again, p)
			}
			changed += bit(!same(fell, p))
		}
	}
	if changed < 100 {
		t.Errorf("%d falls changed something", changed)
	}
}

// TestP67WhatIsSavedIsOfThen lets much happen behind a save: the picture stays, and so does what others did.
func TestP67WhatIsSavedIsOfThen(t *testing.T) {
	p := befalls(t, impl.PlantNew(mustNet(twinText)), pushes(0), takes(2), ticks(0), brings(0), brings(0), takes(0), saves(1))
	seen := p.Saved[1]
	p = befalls(t, p, takes(0), ticks(0), ticks(2), pushes(0), keeps(0), loses(0))
	if !same(p.Saved[1], seen) || same(wantPicture(p.World, 1), seen) || seen.Log != 1 {
		t.Error(p.Saved[1], seen)
	}
	fell := befalls(t, p, falls(1))
	if !same(wantPicture(fell.World, 1), seen) || !same(wantPicture(fell.World, 0), wantPicture(p.World, 0)) || !same(fell.World.Radio, p.World.Radio) || len(p.World.Log) != len(fell.World.Log)+1 {
		t.Error(fell, p)
	}
}

func TestP68WhatIsToldAndStays(t *testing.T) {
	// A sink on each of two nodes, without wires.
	n := mustNet("block a\nin e x\nout o y\nstate s\non e t 1\nstate t\non - s 1\nset y x\ntell o\nuse p a 0\nuse q a 2\nsource p.e\nsource q.e\nsink q.o\nsink p.o\n")
	told := func(nums ...int) []impl.Said {
		var out []impl.Said
		for _, num := range nums {
			out = append(out, said(bit(num < 10), num))
		}
		return out
	}
	p := impl.PlantNew(n)
	steps := []struct {
		list     []impl.Event
		out, now []impl.Said
	}{
		{[]impl.Event{pushes(0, 1), takes(0)}, told(1), nil},
		{[]impl.Event{pushes(1, 11), takes(1)}, told(1, 11), nil},
		{[]impl.Event{saves(1)}, told(1, 11), nil},
		{[]impl.Event{saves(2)}, told(1, 11), told(11)},
		{[]impl.Event{pushes(0, 2), takes(0), pushes(1, 12), takes(1), pushes(0, 3), takes(0)}, told(1, 11, 2, 12, 3), told(11)},
		{[]impl.Event{ticks(0)}, told(1, 11, 2, 12, 3), told(1, 11, 2, 3)},
		{[]impl.Event{falls(0)}, told(1, 11, 2, 12, 3), told(1, 11, 2, 3)},
		{[]impl.Event{pushes(0, 4), takes(0), pushes(0, 5)}, told(1, 11, 2, 12, 3, 4), told(1, 11, 2, 3)},
		{[]impl.Event{falls(2)}, told(1, 11, 2, 3, 4), told(1, 11, 2, 3)},
		{[]impl.Event{falls(0), falls(0), falls(1)}, told(1, 11, 2, 3), told(1, 11, 2, 3)},
		{[]impl.Event{pushes(1, 13), takes(1), pushes(0, 6), takes(0), saves(2)}, told(1, 11, 2, 3, 13, 6), told(1, 11, 2, 3, 13)},
		{[]impl.Event{falls(0)}, told(1, 11, 2, 3, 13), told(1, 11, 2, 3, 13)},
	}
	for i, s := range steps {
		p = befalls(t, p, s.list...)
		if got := impl.PlantTold(p); !same(p.World.Out, s.out) || !same(got, s.now) || !impl.PlantSafe(p) {
			t.Errorf("%d: told %v, and %v stays, not %v and %v", i, p.World.Out, got, s.out, s.now)
		}
	}
}

func TestP68AsPromised(t *testing.T) {
	t.Parallel()
	r := rand.New(rand.NewSource(69))
	stayed, grew := 0, 0
	for i, n := range slices.Concat(wiredNets(r, 60), livelyNets(r, 120)) {
		p := somePlant(r, n)
		if i%3 > 0 {
			_, p = somePlantStory(r, n, r.Intn(80))
		}
		was := impl.PlantTold(p)
		for range 25 {
			p, _ = impl.PlantDo(p, somePlantEvent(r, p))
			now := impl.PlantTold(p)
			if !isPart(was, now) || !isPart(now, p.World.Out) {
				t.Fatalf("%v, then %v, of %v", was, now, p.World.Out)
			}
			stayed += bit(len(now) > 0)
			grew += bit(len(now) > len(was))
			was = now
		}
	}
	if stayed < 1000 || grew < 20 {
		t.Errorf("%d stayed, %d more", stayed, grew)
	}
}

func TestP69WithoutFallsAPlantIsAWorld(t *testing.T) {
	r := rand.New(rand.NewSource(70))
	for _, n := range slices.Concat(wiredNets(r, 100), livelyNets(r, 100)) {
		size := []int{r.Intn(80), 80, 81, 100}[r.Intn(4)]
		list, _ := someStory(r, n, size)
		p := impl.PlantPlay(n, list)
		if w := impl.WorldPlay(n, list); !same(p.World, w) {
			t.Fatalf("%v, not %v\n%v\n%s", p.World, w, list, wantNetText(n))
		}
		// Nor does a save change the world.
		first := list[:min(len(list), 40)]
		var more []impl.Event
		for _, e := range first {
			more = append(more, e, saves(r.Intn(3)))
		}
		if p, w := impl.PlantPlay(n, more), impl.WorldPlay(n, first); !same(p.World, w) {
			t.Fatalf("%v, not %v\n%v\n%s", p.World, w, more, wantNetText(n))
		}
	}
}

func TestP70BehindFallsANetGoesOn(t *testing.T) {
	t.Parallel()
	r := rand.New(rand.NewSource(71))
	done := map[bool]int{}
	for _, n := range slices.Concat(wiredNets(r, 120), livelyNets(r, 180)) {
		list, _ := somePlantStory(r, n, 80)
		if r.Intn(2) == 0 {
			list[79] = falls(r.Intn(3))
		}
		done[impl.WorldDone(calmsDown(t, impl.PlantPlay(n, list).World))]++
	}
	if done[true] < 100 {
		t.Error(done)
	}
	// Behind each event all nodes fall: what is left goes on to its end.
	events := mishaps()
	for size := range events {
		p := impl.PlantPlay(mustNet(twinText), append(events[:size:size], falls(0), falls(1), falls(2)))
		pushed := p.World.Recvs[2].Next
		end := impl.WorldCalm(calmsDown(t, p.World), 20)
		if !impl.WorldDone(end) || len(end.Out) != 2*pushed || !same(end.Out, impl.OneRun(impl.NetMove(p.World.Net, 0), end.Log).Out) {
			t.Errorf("%d: %v", size, end)
		}
	}
}
