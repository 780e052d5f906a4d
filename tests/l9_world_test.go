package tests

import (
	"math/rand"
	"slices"
	"strings"
	"testing"

	"loop.example/telltale/impl"
)

func TestP32NewWorlds(t *testing.T) {
	n := mustNet(chainText)
	want := impl.World{
		Net:   n,
		Insts: []impl.Inst{inst(0, 0, 0), inst(0, 0, 0, 0, 0), inst(0, 0, 0, 0, 0), inst(0, 0, 0, 0, 0)},
		Sends: make([]impl.Send, 4),
		Recvs: make([]impl.Recv, 6),
	}
	if w := impl.WorldNew(n); !same(w, want) {
		t.Errorf("%v, not %v", w, want)
	}
	least := mustNet("block a\nvar x -7\nstate b\nuse c a 0\nuse d a 1\n")
	if w := impl.WorldNew(least); !same(w, impl.World{Net: least, Insts: []impl.Inst{inst(0, -7), inst(0, -7)}}) || !impl.WorldOk(w) || !impl.WorldDone(w) || !impl.WorldSafe(w) {
		t.Errorf("%v", w)
	}
}

// isNoWorld asks that a world that is not ok is nothing to all that asks for one.
func isNoWorld(t *testing.T, name string, w impl.World) {
	t.Helper()
	h := hand(w)
	if impl.WorldOk(h.now) || impl.WorldDone(h.now) || impl.WorldSafe(h.now) {
		t.Errorf("%s: it is ok, done or safe", name)
	}
	for _, e := range []impl.Event{{}, pushes(0), pushes(1, 1, 2), takes(0), takes(4), ticks(0), brings(0), keeps(0), loses(0), spoils(0, 0)} {
		if got, ok := impl.WorldDo(h.now, e); ok || !same(got, impl.World{}) {
			t.Errorf("%s: %v: %v %v", name, e, ok, got)
		}
	}
	for _, rounds := range []int{-1, 0, 1, 60, 61} {
		if got := impl.WorldCalm(h.now, rounds); !same(got, impl.World{}) {
			t.Errorf("%s: %d: %v", name, rounds, got)
		}
		if got, missed := impl.ClockRun(h.now, []impl.Beat{beat(0, 0, 1)}, 0, 1, rounds); !same(got, impl.World{}) || len(missed) > 0 {
			t.Errorf("%s: %d: %v %v", name, rounds, got, missed)
		}
	}
	isNoPlant(t, name, impl.Plant{World: h.now, Saved: make([]impl.Part, 3)})
	if !h.isUntouched() {
		t.Errorf("%s: an argument was written", name)
	}
}

func TestP32NetsThatAreNotOk(t *testing.T) {
	cases := map[string]func(n *impl.Net){
		"nothing":       func(n *impl.Net) { *n = impl.Net{} },
		"a block twice": func(n *impl.Net) { n.Blocks = append(n.Blocks, n.Blocks[0]) },
		"a node":        func(n *impl.Net) { n.Uses[1].Node = 3 },
		"a node below":  func(n *impl.Net) { n.Uses[0].Node = -1 },
		"a wire twice":  func(n *impl.Net) { n.Wires[1] = n.Wires[0] },
		"a source":      func(n *impl.Net) { n.Sources[0].Event = "up" },
		"a ring":        func(n *impl.Net) { n.Wires[3] = wire("r", "low", "q", "val") },
		"no room": func(n *impl.Net) {
			told := impl.Act{Kind: impl.ActTell, Name: "low"}
			n.Blocks[1].States[1].Acts = []impl.Act{told, told, told, told}
		},
	}
	for name, turn := range cases {
		w := impl.WorldNew(mustNet(halfText))
		turn(&w.Net)
		if got := impl.WorldNew(w.Net); !same(got, impl.World{}) {
			t.Errorf("%s: %v", name, got)
		}
		for _, list := range [][]impl.Event{nil, {pushes(0)}, {pushes(0), takes(4), ticks(0)}} {
			if got := impl.WorldPlay(w.Net, list); !same(got, impl.World{}) {
				t.Errorf("%s: %v", name, got)
			}
		}
		isNoWorld(t, name, w)
	}
	isNoWorld(t, "no world", impl.World{})
}

func TestP32NewWorldsAsPromised(t *testing.T) {
	r := rand.New(rand.NewSource(32))
	for range 300 {
		n := someNet(r)
		h := hand(n)
		w := impl.WorldNew(h.now)
		if !same(w.Net, n) || !same(w.Insts, impl.OneNew(n).Insts) || len(w.Radio)+len(w.Out)+len(w.Log) > 0 || len(w.Sends) != len(n.Wires) || len(w.Recvs) != len(wayEnds(n)) {
			t.Fatalf("%v", w)
		}
		if !same(w.Sends, make([]impl.Send, len(w.Sends))) || !same(w.Recvs, make([]impl.Recv, len(w.Recvs))) {
			t.Fatalf("something waits, or came: %v", w)
		}
		if !impl.WorldOk(w) || !impl.WorldDone(w) || !impl.WorldSafe(w) || !same(impl.WorldPlay(n, nil), w) || !same(impl.WorldCalm(w, 2), w) {
			t.Fatalf("not as promised: %v", w)
		}
		if !h.isUntouched() || !areApart(h.now, w) {
			t.Fatal("an argument was written, or memory is shared")
		}
	}
}

// fullWorld is a world with something everywhere. It could not have come to be, but is ok.
func fullWorld() impl.World {
	return impl.World{
		Net:   mustNet(halfText),
		Insts: []impl.Inst{inst(1, 2, 3), inst(0, 4, 5, 6, 7), inst(2, lowest, highest, 0, 1), inst(0, 0, 0, 0, 0)},
		Sends: []impl.Send{sender(4, lists(1, highest)...), {}, {}, sender(9998, []int{lowest})},
		Recvs: []impl.Recv{receiver(5, []int{2}), receiver(3, lists(1, 2)...), receiver(9998, []int{4}), receiver(9998, lists(5, 6)...), receiver(2, nil, nil), receiver(9998, []int{1, 2})},
		Radio: []string{wantFrameText(data(0, 5, 9)), "", strings.Repeat("a", 80), wantFrameText(ack(0, 6)), wantFrameText(ack(3, 9999)), wantFrameText(data(3, 9998, lowest))},
		Out:   []impl.Said{said(0, 9), said(1, highest), said(0, lowest)},
		Log:   []impl.Do{push(0), push(1, lowest, highest), take(0), take(5), push(0), take(3)},
	}
}

func TestP33WhatAWorldCanBe(t *testing.T) {
	cases := []struct {
		name string
		turn func(w *impl.World)
		want bool
	}{
		{"as it is", func(w *impl.World) {}, true},
		{"nothing", func(w *impl.World) { *w = impl.World{} }, false},
		{"another net", func(w *impl.World) { w.Net = mustNet(twinText) }, false},
		{"the last two wires staying, too", func(w *impl.World) { w.Net.Uses[3].Node = 1 }, false},
		{"all wires crossing", func(w *impl.World) { w.Net.Uses[2].Node = 2 }, true},
		{"no insts", func(w *impl.World) { w.Insts = nil }, false},
		{"one inst less", func(w *impl.World) { w.Insts = w.Insts[:3] }, false},
		{"one inst more", func(w *impl.World) { w.Insts = append(w.Insts, w.Insts[3]) }, false},
		{"an inst in no state", func(w *impl.World) { w.Insts[0].State = 2 }, false},
		{"an inst in state -1", func(w *impl.World) { w.Insts[3].State = -1 }, false},
		{"a value of an inst more", func(w *impl.World) { w.Insts[3].Vals = append(w.Insts[3].Vals, 0) }, false},
		{"a value of an inst less", func(w *impl.World) { w.Insts[2].Vals = w.Insts[2].Vals[:3] }, false},
		{"a value of an inst too great", func(w *impl.World) { w.Insts[2].Vals[1]++ }, false},
		{"nothing told", func(w *impl.World) { w.Out = nil }, true},
		{"told by no sink", func(w *impl.World) { w.Out[2].Sink = 2 }, false},
		{"told by sink -1", func(w *impl.World) { w.Out[0].Sink = -1 }, false},
		{"told without values", func(w *impl.World) { w.Out[1].Vals = nil }, false},
		{"told with too many values", func(w *impl.World) { w.Out[1].Vals = []int{1, 2} }, false},
		{"told with a value too great", func(w *impl.World) { w.Out[1].Vals[0]++ }, false},
		{"200 told", func(w *impl.World) { w.Out = slices.Repeat([]impl.Said{said(1, 1)}, 200) }, true},
		{"201 told", func(w *impl.World) { w.Out = slices.Repeat([]impl.Said{said(1, 1)}, 201) }, false},
		{"no sends", func(w *impl.World) { w.Sends = nil }, false},
		{"one send less", func(w *impl.World) { w.Sends = w.Sends[:3] }, false},
		{"one send more", func(w *impl.World) { w.Sends = append(w.Sends, impl.Send{}) }, false},
		{"as many sends as ways", func(w *impl.World) { w.Sends = append(w.Sends, impl.Send{}, impl.Send{}) }, false},
		{"three wait", func(w *impl.World) { w.Sends[0] = sender(4, lists(1, 2, 3)...) }, true},
		{"four wait", func(w *impl.World) { w.Sends[0] = sender(4, lists(1, 2, 3, 4)...) }, false},
		{"what waits has no values", func(w *impl.World) { w.Sends[0].Wait[1] = nil }, false},
		{"what waits has two values", func(w *impl.World) { w.Sends[3].Wait[0] = []int{1, 2} }, false},
		{"what waits is too great", func(w *impl.World) { w.Sends[0].Wait[1][0]++ }, false},
		{"what waits is too small", func(w *impl.World) { w.Sends[3].Wait[0][0]-- }, false},
		{"a number below 0", func(w *impl.World) { w.Sends[0].Base = -1 }, false},
		{"the last number waits", func(w *impl.World) { w.Sends[0].Base = 9997 }, true},
		{"one behind the last number waits", func(w *impl.World) { w.Sends[0].Base = 9998 }, false},
		{"nothing more can wait", func(w *impl.World) { w.Sends[3] = sender(9999) }, true},
		{"a number too great", func(w *impl.World) { w.Sends[3] = sender(10000) }, false},
		{"a number on a wire that stays", func(w *impl.World) { w.Sends[1].Base = 1 }, false},
		{"something waits on a wire that stays", func(w *impl.World) { w.Sends[2].Wait = lists(1) }, false},
		{"an empty list waits on a wire that stays", func(w *impl.World) { w.Sends[2].Wait = [][]int{} }, true},
		{"no recvs", func(w *impl.World) { w.Recvs = nil }, false},
		{"one recv less", func(w *impl.World) { w.Recvs = w.Recvs[:5] }, false},
		{"one recv more", func(w *impl.World) { w.Recvs = append(w.Recvs, impl.Recv{}) }, false},
		{"recvs of wires alone", func(w *impl.World) { w.Recvs = w.Recvs[:4] }, false},
		{"three came", func(w *impl.World) { w.Recvs[1].List = lists(1, 2, 3) }, true},
		{"four came", func(w *impl.World) { w.Recvs[1] = receiver(9, lists(1, 2, 3, 4)...) }, false},
		{"three pushed", func(w *impl.World) { w.Recvs[5].List = [][]int{{1, 2}, {3, 4}, {lowest, highest}} }, true},
		{"four pushed", func(w *impl.World) { w.Recvs[4] = receiver(9, nil, nil, nil, nil) }, false},
		{"more came than numbers", func(w *impl.World) { w.Recvs[4].Next = 1 }, false},
		{"what came has no values", func(w *impl.World) { w.Recvs[0].List[0] = nil }, false},
		{"what came has two values", func(w *impl.World) { w.Recvs[2].List[0] = []int{1, 2} }, false},
		{"what came is too great", func(w *impl.World) { w.Recvs[1].List[1][0] = highest + 1 }, false},
		{"what was pushed has a value", func(w *impl.World) { w.Recvs[4].List[1] = []int{0} }, false},
		{"what was pushed has one value", func(w *impl.World) { w.Recvs[5].List[0] = []int{0} }, false},
		{"what was pushed is too small", func(w *impl.World) { w.Recvs[5].List[0][1] = lowest - 1 }, false},
		{"a next below 0", func(w *impl.World) { w.Recvs[5] = receiver(-1) }, false},
		{"the last next", func(w *impl.World) { w.Recvs[5].Next = 9999 }, true},
		{"a next too great", func(w *impl.World) { w.Recvs[5].Next = 10000 }, false},
		{"more came than went", func(w *impl.World) { w.Recvs[0].Next = 7 }, true},
		{"nothing under way", func(w *impl.World) { w.Radio = nil }, true},
		{"40 under way", func(w *impl.World) { w.Radio = slices.Repeat([]string{strings.Repeat("\xff", 80)}, 40) }, true},
		{"41 under way", func(w *impl.World) { w.Radio = make([]string, 41) }, false},
		{"81 bytes under way", func(w *impl.World) { w.Radio[2] += "a" }, false},
		{"81 bytes under way, the last", func(w *impl.World) { w.Radio[5] = strings.Repeat("1", 81) }, false},
		{"nothing done", func(w *impl.World) { w.Log = nil }, true},
		{"500 done", func(w *impl.World) { w.Log = slices.Repeat([]impl.Do{take(5)}, 500) }, true},
		{"501 done", func(w *impl.World) { w.Log = slices.Repeat([]impl.Do{take(5)}, 501) }, false},
		{"nothing is done", func(w *impl.World) { w.Log[0] = impl.Do{} }, false},
		{"what is done is no kind", func(w *impl.World) { w.Log[2].Kind = 3 }, false},
		{"push of no source", func(w *impl.World) { w.Log[0].At = 2 }, false},
		{"push of source -1", func(w *impl.World) { w.Log[0].At = -1 }, false},
		{"push of a wire", func(w *impl.World) { w.Log[0].At = 4 }, false},
		{"push with a value", func(w *impl.World) { w.Log[4].Vals = []int{0} }, false},
		{"push with a value less", func(w *impl.World) { w.Log[1].Vals = []int{0} }, false},
		{"push with a value too great", func(w *impl.World) { w.Log[1].Vals[1]++ }, false},
		{"push with a value too small", func(w *impl.World) { w.Log[1].Vals[0]-- }, false},
		{"take of no way", func(w *impl.World) { w.Log[5].At = 6 }, false},
		{"take of way -1", func(w *impl.World) { w.Log[5].At = -1 }, false},
		{"take with a value", func(w *impl.World) { w.Log[2].Vals = []int{0} }, false},
		{"take with all values", func(w *impl.World) { w.Log[3].Vals = []int{1, 2} }, false},
	}
	for _, c := range cases {
		w := fullWorld()
		c.turn(&w)
		h := hand(w)
		if got := impl.WorldOk(h.now); got != c.want || impl.NetCheck(w.Net) == 0 && got != wantWorldOk(w) || !h.isUntouched() {
			t.Errorf("%s: %v, not %v", c.name, got, c.want)
		}
		if !c.want {
			isNoWorld(t, c.name, w)
			continue
		}
		if impl.WorldDone(w) || impl.WorldSafe(w) != wantSafe(w) {
			t.Errorf("%s: done, or not as safe as it is", c.name)
		}
		for _, e := range []impl.Event{pushes(0), pushes(1, 1, 2), takes(0), takes(1), takes(5), ticks(1), brings(0), brings(3), keeps(5), loses(2), spoils(2, 80)} {
			keepsWorldDo(t, w, e)
		}
	}
}

// wrongWorld changes one thing of a world, mostly for the worse.
func wrongWorld(r *rand.Rand, w *impl.World) {
	far := []int{-1, 0, 1, 3, 4, 9998, 9999, 10000, 1 << 32, -1 << 63}[r.Intn(10)]
	switch r.Intn(8) {
	case 0:
		if len(w.Sends) > 0 {
			s := &w.Sends[r.Intn(len(w.Sends))]
			*s = []impl.Send{{Base: far, Wait: s.Wait}, {Base: s.Base, Wait: append(s.Wait, []int{0})}}[r.Intn(2)]
		}
	case 1:
		if len(w.Recvs) > 0 {
			x := &w.Recvs[r.Intn(len(w.Recvs))]
			*x = []impl.Recv{{Next: far, List: x.List}, {Next: x.Next, List: append(x.List, []int{0})}}[r.Intn(2)]
		}
	case 2:
		if len(w.Log) > 0 {
			d := &w.Log[r.Intn(len(w.Log))]
			*d = []impl.Do{{Kind: far, At: d.At, Vals: d.Vals}, {Kind: d.Kind, At: far, Vals: d.Vals}, {Kind: d.Kind, At: d.At, Vals: someValues(r, r.Intn(4))}}[r.Intn(3)]
		}
	case 3:
		if len(w.Radio) > 0 {
			w.Radio[r.Intn(len(w.Radio))] = strings.Repeat("9", 80+r.Intn(2))
		}
	case 4:
		w.Radio = append(w.Radio, "")
	case 5:
		w.Sends = append(w.Sends, make([]impl.Send, r.Intn(2))...)
	case 6:
		w.Net.Uses[r.Intn(len(w.Net.Uses))].Node = r.Intn(3)
	case 7:
		o := impl.One{Insts: w.Insts, Out: w.Out}
		wrongOne(r, &o)
		w.Insts, w.Out = o.Insts, o.Out
		w.Recvs = append(w.Recvs, make([]impl.Recv, len(o.Ways))...)
	}
}

func TestP33WorldsThatCannotBeSo(t *testing.T) {
	r := rand.New(rand.NewSource(33))
	seen := map[bool]int{}
	for _, n := range wiredNets(r, 250) {
		for range 6 {
			w := copyOf(someWorld(r, n))
			wrongWorld(r, &w)
			want := wantWorldOk(w)
			seen[want]++
			if got := impl.WorldOk(w); got != want || impl.WorldDone(w) != (want && wantDone(w)) {
				t.Fatalf("%v, not %v: %v\n%s", got, want, w, wantNetText(w.Net))
			}
			if got, ok := impl.WorldDo(w, someEvent(r, w)); !want && (ok || !same(got, impl.World{})) {
				t.Fatalf("%v %v", ok, got)
			}
		}
	}
	if seen[true] < 200 || seen[false] < 200 {
		t.Error(seen)
	}
}

func TestP33WhatCannotBe(t *testing.T) {
	w := fullWorld()
	var list []impl.Event
	for kind := range 12 {
		for _, far := range []int{-1 << 63, -1 << 32, -2, -1, 6, 7, 1 << 32, 1<<63 - 1} {
			list = append(list, impl.Event{Kind: kind, At: far}, impl.Event{Kind: kind, At: far, Vals: []int{1, 2}})
		}
	}
	for _, kind := range []int{0, -1, 8, 9, 10, 1 << 32, 1<<32 + 1, -1 << 63, 1<<63 - 1} {
		list = append(list, impl.Event{Kind: kind}, impl.Event{Kind: kind, At: 1, Vals: []int{1, 2}})
	}
	list = append(list,
		pushes(2), pushes(5), pushes(0, 1), pushes(0, 1, 2), pushes(1), pushes(1, 1), pushes(1, 1, 2, 3), pushes(1, highest+1, 0), pushes(1, 0, lowest-1), pushes(1, 1<<63-1, 0),
		takes(1), takes(2), // no number is left on the wire that goes on from there
		ticks(3), ticks(4), ticks(5),
		spoils(1, 0), spoils(1, 5), spoils(0, -1), spoils(2, -80), spoils(5, -1<<63), spoils(1, -1))
	for _, e := range list {
		if got, ok := keepsWorldDo(t, w, e); ok || !same(got, w) {
			t.Errorf("%v: %v %v", e, ok, got)
		}
	}
	if got := impl.WorldPlay(w.Net, slices.DeleteFunc(list, func(e impl.Event) bool { return e.Kind == impl.WorldTick })); !same(got, impl.WorldNew(w.Net)) {
		t.Errorf("%v", got)
	}
}

// TestP33WhatCanBe has one of each kind of events, and what each asks to be another one.
func TestP33WhatCanBe(t *testing.T) {
	w := fullWorld()
	radio := func(w *impl.World, at int) { w.Radio = slices.Delete(w.Radio, at, at+1) }
	type eventCase struct {
		name string
		e    impl.Event
		turn func(w *impl.World)
	}
	cases := []eventCase{
		{"a push", pushes(0), func(w *impl.World) { w.Recvs[4] = receiver(3, nil, nil, nil); w.Log = append(w.Log, push(0)) }},
		{"a push of the last number", pushes(1, lowest, highest), func(w *impl.World) {
			w.Recvs[5] = receiver(9999, []int{1, 2}, []int{lowest, highest})
			w.Log = append(w.Log, push(1, lowest, highest))
		}},
		{"a step by what came over, that tells by a wire that stays", takes(0), func(w *impl.World) {
			w.Insts[1], w.Recvs[0] = inst(0, 2, 5, 5, 7), receiver(5)
			w.Recvs[1] = receiver(4, lists(1, 2, 5)...)
			w.Log = append(w.Log, take(0))
		}},
		{"a step of a block with a sink alone", takes(3), func(w *impl.World) {
			w.Insts[3], w.Recvs[3] = inst(0, 5, 0, 5, 0), receiver(9998, []int{6})
			w.Out, w.Log = append(w.Out, said(0, 5)), append(w.Log, take(3))
		}},
		{"a step that only brings values", takes(5), func(w *impl.World) {
			w.Insts[1], w.Recvs[5] = inst(0, 1, 2, 6, 7), receiver(9998)
			w.Log = append(w.Log, take(5))
		}},
		{"a tick", ticks(0), func(w *impl.World) {
			w.Radio = append(w.Radio, wantFrameText(data(0, 4, 1)), wantFrameText(data(0, 5, highest)), wantFrameText(ack(3, 9998)))
		}},
		{"another tick", ticks(1), func(w *impl.World) {
			w.Radio = append(w.Radio, wantFrameText(ack(0, 5)), wantFrameText(data(3, 9998, lowest)))
		}},
		{"a tick of a node without blocks", ticks(2), func(w *impl.World) {}},
		{"a frame comes", brings(0), func(w *impl.World) { w.Recvs[0] = receiver(6, lists(2, 9)...); radio(w, 0) }},
		{"an empty text comes", brings(1), func(w *impl.World) { radio(w, 1) }},
		{"no frame comes", brings(2), func(w *impl.World) { radio(w, 2) }},
		{"it is told that two came", brings(3), func(w *impl.World) { w.Sends[0] = sender(6); radio(w, 3) }},
		{"it is told that the last came", brings(4), func(w *impl.World) { w.Sends[3] = sender(9999); radio(w, 4) }},
		{"the last number comes", brings(5), func(w *impl.World) { w.Recvs[3] = receiver(9999, lists(5, 6, lowest)...); radio(w, 5) }},
		{"a frame comes, and stays", keeps(0), func(w *impl.World) { w.Recvs[0] = receiver(6, lists(2, 9)...) }},
		{"no frame comes, and stays", keeps(2), func(w *impl.World) {}},
		{"it is told that two came, and stays", keeps(3), func(w *impl.World) { w.Sends[0] = sender(6) }},
		{"a frame goes", loses(0), func(w *impl.World) { radio(w, 0) }},
		{"the last frame goes", loses(5), func(w *impl.World) { radio(w, 5) }},
		{"an empty text goes", loses(1), func(w *impl.World) { radio(w, 1) }},
		{"the first byte", spoils(2, 0), func(w *impl.World) { w.Radio[2] = "\xff" + w.Radio[2][1:] }},
		{"the last byte", spoils(2, 79), func(w *impl.World) { w.Radio[2] = w.Radio[2][1:] + "\xff" }},
		{"a byte once around", spoils(2, 80), func(w *impl.World) { w.Radio[2] = "\xff" + w.Radio[2][1:] }},
		{"a byte often around", spoils(2, 80*1000+1), func(w *impl.World) { w.Radio[2] = "a\xff" + w.Radio[2][2:] }},
		{"a byte by the greatest number", spoils(2, 1<<63-1), func(w *impl.World) { w.Radio[2] = w.Radio[2][:47] + "\xff" + w.Radio[2][48:] }},
		{"values do not matter to a step", impl.Event{Kind: impl.WorldTake, At: 5, Num: -4, Vals: []int{1, 2}}, func(w *impl.World) {
			w.Insts[1], w.Recvs[5] = inst(0, 1, 2, 6, 7), receiver(9998)
			w.Log = append(w.Log, take(5))
		}},
		{"a number does not matter to what comes", impl.Event{Kind: impl.WorldKeep, Num: -1, Vals: []int{1 << 40}}, func(w *impl.World) { w.Recvs[0] = receiver(6, lists(2, 9)...) }},
	}
	holds := func(c eventCase) {
		want := copyOf(w)
		c.turn(&want)
		if got, ok := keepsWorldDo(t, w, c.e); !ok || !same(got, want) {
			t.Errorf("%s: %v %v, not %v", c.name, ok, got, want)
		}
	}
	for _, c := range cases {
		holds(c)
	}
	w.Sends[3], w.Insts[2].State = sender(9995, []int{8}), 0
	holds(eventCase{"a step that tells outside, and by a wire that crosses", takes(1), func(w *impl.World) {
		w.Insts[2], w.Recvs[1] = inst(0, 1, highest, 3, 1), receiver(3, []int{2})
		w.Sends[3], w.Out, w.Log = sender(9995, lists(8, 3)...), append(w.Out, said(1, 3)), append(w.Log, take(1))
	}})
	if got, ok := keepsWorldDo(t, w, impl.Event{Kind: impl.WorldPush, Vals: []int{}}); !ok || len(got.Recvs[4].List) != 3 {
		t.Errorf("empty values: %v %v", ok, got)
	}
}

// TestP33FramesThatDoNotCome has frames that are read, but of wires that stay, of none, with values that are not as their event brings, or with another number.
func TestP33FramesThatDoNotCome(t *testing.T) {
	w := fullWorld()
	w.Recvs[1], w.Recvs[2] = receiver(1, []int{1}), receiver(1, []int{1})
	list := []impl.Frame{
		data(1, 1, 5), data(2, 1, 5), data(2, 0, 5), data(4, 2), data(5, 9998, 1, 2), data(6, 0), ack(1, 0), ack(1, 1), ack(2, 0), ack(2, 3), ack(4, 0), ack(5, 2), ack(6, 0),
		data(0, 5), data(0, 5, 1, 2), data(0, 5, 1, 2, 3), data(3, 9998), data(3, 9998, 1, 2),
		data(0, 4, 1), data(0, 6, 1), data(0, 0, 1), data(0, 9999, 1), data(3, 9999, 1), data(3, 9997, 1),
		ack(0, 3), ack(0, 4), ack(0, 7), ack(0, 9999), ack(0, 0), ack(3, 9997), ack(3, 9998), ack(3, 0),
	}
	for _, f := range list {
		w.Radio = []string{"", wantFrameText(f)}
		if got, ok := keepsWorldDo(t, w, keeps(1)); !ok || !same(got, w) {
			t.Errorf("%v came, and stays: %v %v", f, ok, got)
		}
		want := copyOf(w)
		want.Radio = []string{""}
		if got, ok := keepsWorldDo(t, w, brings(1)); !ok || !same(got, want) {
			t.Errorf("%v came: %v %v", f, ok, got)
		}
	}
	good := wantFrameText(data(0, 5, 9))
	for _, text := range []string{"", good[1:], good[:len(good)-1], good + " ", "0" + good, " " + good, strings.Replace(good, "9", "8", 1), "\xff", good + "\n", sealed("1 0 5"), sealed("3 0 5 9"), sealed("1 7 5 9"), sealed("1 0 5 2147483648"), sealed("1 0 05 9")} {
		w.Radio = []string{text}
		if got, ok := keepsWorldDo(t, w, keeps(0)); !ok || !same(got, w) {
			t.Errorf("%q came: %v %v", text, ok, got)
		}
	}
	// Each byte of a frame that is spoilt: it does not come any more.
	for at := range len(good) {
		w.Radio = []string{good}
		spoilt := happens(t, w, spoils(0, at+len(good)))
		if spoilt.Radio[0][at] != 255 || !same(happens(t, spoilt, keeps(0)), spoilt) || !same(happens(t, spoilt, spoils(0, at)), spoilt) {
			t.Errorf("%d: %q", at, spoilt.Radio[0])
		}
	}
}

// starWorld is the star with something to take for its first block, on its nodes or on one.
func starWorld(oneNode bool) impl.World {
	n := starNet()
	if oneNode {
		n = impl.NetMove(n, 1)
	}
	w := impl.WorldNew(n)
	w.Recvs[7], w.Recvs[8] = receiver(1, []int{7}), receiver(1, []int{4})
	return w
}

// TestP33RoomOnEachWire has one of several wires from a block with as much room as one step can tell, or with one less.
func TestP33RoomOnEachWire(t *testing.T) {
	for _, oneNode := range []bool{false, true} {
		for at, most := range map[int]int{0: 3, 1: 3, 2: 1, 6: 3, 3: 0, 4: 0, 5: 0} {
			for waits := range 4 {
				w := starWorld(oneNode)
				list := lists(1, 2, 3)[:waits]
				if oneNode {
					w.Recvs[at] = receiver(waits, list...)
				} else if crossing(w.Net, at) {
					w.Sends[at] = sender(0, list...)
				}
				// Both events of the source are told of the same block, so that both need all its wires.
				for _, way := range []int{7, 8} {
					_, ok := keepsWorldDo(t, w, takes(way))
					if want := 3-waits >= most; ok != want {
						t.Errorf("%v: way %d, wire %d: %v with %d there", oneNode, way, at, ok, waits)
					}
				}
			}
		}
	}
	// What came to the other end does not take room from a wire that crosses, nor what is elsewhere from one that stays.
	w := starWorld(false)
	for _, at := range []int{0, 1, 2, 6} {
		w.Recvs[at] = receiver(9999, lists(1, 2, 3)...)
	}
	w = happens(t, w, takes(7))
	if !same(w.Sends[0], sender(0, lists(70, 70, 70)...)) || !same(w.Sends[2], sender(0, []int{1})) || len(w.Recvs[0].List) != 3 {
		t.Error(w.Sends, w.Recvs)
	}
	if _, ok := keepsWorldDo(t, w, takes(8)); ok {
		t.Error("there is no room")
	}
}

// TestP33RoomByNumbers has the numbers of a wire, or of a source, at their limit.
func TestP33RoomByNumbers(t *testing.T) {
	for _, oneNode := range []bool{false, true} {
		for at, most := range map[int]int{0: 3, 1: 3, 2: 1, 6: 3} {
			for num := 9990; num <= 9999; num++ {
				for waits := range 2 {
					w := starWorld(oneNode)
					if oneNode {
						w.Recvs[at] = receiver(num, lists(1)[:waits]...)
					} else {
						w.Sends[at] = sender(num-waits, lists(1)[:waits]...)
					}
					got, ok := keepsWorldDo(t, w, takes(7))
					if want := 9999-num >= most && 3-waits >= most; ok != want {
						t.Errorf("%v: wire %d from %d on: %v", oneNode, at, num, ok)
					}
					if ok && num == 9999-most && !oneNode && got.Sends[at].Base+len(got.Sends[at].Wait) != 9999 || ok && num == 9999-most && oneNode && got.Recvs[at].Next != 9999 {
						t.Errorf("%v: wire %d: %v", oneNode, at, got)
					}
				}
			}
		}
	}
	w := impl.WorldNew(starNet())
	for num := 9990; num <= 9999; num++ {
		w.Recvs[9] = receiver(num)
		if got, ok := keepsWorldDo(t, w, pushes(2, num)); ok != (num < 9999) || ok && !same(got.Recvs[9], receiver(num+1, []int{num})) {
			t.Errorf("%d: %v %v", num, ok, got.Recvs[9])
		}
	}
	for waits := range 4 {
		w.Recvs[9] = receiver(17, lists(1, 2, 3)[:waits]...)
		if got, ok := keepsWorldDo(t, w, pushes(2, 4)); ok != (waits < 3) || ok && len(got.Recvs[9].List) != waits+1 {
			t.Errorf("%d: %v %v", waits, ok, got.Recvs[9])
		}
	}
}

// TestP33HowMuchIsDone has all but one, or all, done that can be; frames come and go still.
func TestP33HowMuchIsDone(t *testing.T) {
	for size := 497; size <= 500; size++ {
		w := fullWorld()
		w.Log = slices.Repeat([]impl.Do{take(1)}, size)
		for _, e := range []impl.Event{pushes(0), pushes(1, 1, 2), takes(0), takes(3), takes(5)} {
			if got, ok := keepsWorldDo(t, w, e); ok != (size < 500) || len(got.Log) != min(size+1, 500) {
				t.Errorf("%d: %v: %v", size, e, ok)
			}
		}
		happens(t, w, ticks(0), ticks(1), keeps(0), brings(3), loses(1), spoils(2, 4))
		got := keepsCalm(t, w, 3)
		if len(got.Log) != 500 || size == 500 && (!same(got.Insts, w.Insts) || len(got.Radio) > 0 || !same(got.Sends[3], sender(9999))) {
			t.Errorf("%d: %v", size, got)
		}
	}
}

// TestP33ToldOutsideUpToItsLimit has room for some or none of those that are told outside, while wires take all.
func TestP33ToldOutsideUpToItsLimit(t *testing.T) {
	for _, oneNode := range []bool{false, true} {
		for size := 195; size <= 200; size++ {
			w := starWorld(oneNode)
			for i := range size {
				w.Out = append(w.Out, said(1, i))
			}
			got := happens(t, w, takes(7))
			if len(got.Out) != min(size+3, 200) || !same(got.Out[:size], w.Out) || size < 200 && !same(got.Out[size], said(2, 70)) {
				t.Errorf("%d: %d were told", size, len(got.Out))
			}
			if told := lists(70, 70, 70); oneNode && !same(got.Recvs[6].List, told) || !oneNode && !same(got.Sends[6].Wait, told) {
				t.Errorf("%d: %v", size, got)
			}
		}
	}
}

// TestP33FramesUnderWayUpToTheirLimit has room for some or none of the frames of a tick.
func TestP33FramesUnderWayUpToTheirLimit(t *testing.T) {
	w := starWorld(false)
	w.Sends[0], w.Sends[6] = sender(3, lists(4, 5, 6)...), sender(0, lists(7)...)
	all := happens(t, w, ticks(0)).Radio
	var want []string
	for i := range 3 {
		want = append(want, wantFrameText(data(0, 3+i, 4+i)))
	}
	want = append(want, wantFrameText(ack(3, 0)), wantFrameText(ack(4, 0)), wantFrameText(data(6, 0, 7)))
	if !same(all, want) {
		t.Fatal(all)
	}
	for size := 30; size <= 40; size++ {
		w.Radio = slices.Repeat([]string{""}, size)
		got := happens(t, w, ticks(0))
		if len(got.Radio) != min(40, size+6) || !same(got.Radio[size:], all[:len(got.Radio)-size]) {
			t.Errorf("%d: %v", size, got.Radio)
		}
		again := happens(t, got, ticks(0), ticks(1), ticks(2), ticks(0))
		if len(again.Radio) != 40 || !impl.WorldOk(again) {
			t.Errorf("%d: %d are under way", size, len(again.Radio))
		}
	}
}

// TestP33LongFrames has the frame with the most bytes that can be.
func TestP33LongFrames(t *testing.T) {
	far := strings.Repeat("-2147483648,", 3)
	n := mustNet("block a\nin e x,y,z\nout o p,q,r\nstate s\non e t 1\nstate t\non - s 1\nset p x\nset q y\nset r z\ntell o\nuse u a 0\nuse v a 1\nwire u.o v.e\nsource u.e\nsink v.o\n")
	w := happens(t, impl.WorldNew(n), pushes(0, lowest, lowest, lowest), takes(1))
	w.Sends[0].Base, w.Recvs[0].Next = 9998, 9998
	w = happens(t, w, ticks(0))
	if w.Radio[0] != sealed("1 0 9998 "+far[:len(far)-1]) || len(w.Radio[0]) > impl.FrameMax {
		t.Error(w.Radio)
	}
	w = happens(t, w, brings(0), takes(0), ticks(1), brings(0))
	if !same(w.Out, []impl.Said{said(0, lowest, lowest, lowest)}) || !same(w.Sends[0], sender(9999)) || !same(w.Recvs[0], receiver(9999)) || !impl.WorldDone(w) {
		t.Error(w)
	}
	if next := happens(t, w, pushes(0, 1, 2, 3)); impl.WorldDone(next) || !same(impl.WorldCalm(next, 5), next) {
		t.Error("a wire without numbers has room")
	}
}

func TestP33WhateverHappens(t *testing.T) {
	t.Parallel()
	r := rand.New(rand.NewSource(34))
	done := map[int]int{}
	for _, n := range slices.Concat(wiredNets(r, 100), livelyNets(r, 100)) {
		w := impl.WorldNew(n)
		if r.Intn(3) > 0 {
			w = someWorld(r, n)
		}
		for range 12 {
			e := someEvent(r, w)
			next, ok := keepsWorldDo(t, w, e)
			done[e.Kind*bit(ok)]++
			if safe := wantSafe(next); impl.WorldSafe(next) != safe || impl.WorldDone(next) != wantDone(next) {
				t.Fatalf("safe: %v, done: %v: %v", safe, wantDone(next), next)
			}
			w = next
		}
	}
	for kind := range 8 {
		if done[kind] < 10 {
			t.Error(done)
		}
	}
}

func TestP34WhatIsPlayedIsDoneOneByOne(t *testing.T) {
	if impl.PlayMax != 80 || impl.LogMax != 500 || impl.RadioMax != 40 || impl.WorkMax != 100 || impl.CalmMax != 60 || impl.WorldPush != 1 || impl.WorldTake != 2 || impl.WorldTick != 3 || impl.WorldBring != 4 || impl.WorldKeep != 5 || impl.WorldLose != 6 || impl.WorldSpoil != 7 {
		t.Error("a number is another one")
	}
	r := rand.New(rand.NewSource(35))
	for _, n := range slices.Concat(wiredNets(r, 40), livelyNets(r, 40)) {
		size := []int{r.Intn(80), 79, 80, 81, 100}[r.Intn(5)]
		list, _ := someStory(r, n, size)
		hn, hl := hand(n), hand(list)
		got := impl.WorldPlay(hn.now, hl.now)
		want := impl.WorldNew(n)
		for _, e := range list[:min(80, size)] {
			want, _ = impl.WorldDo(want, e)
		}
		if !same(got, want) {
			t.Fatalf("%v, not %v\n%v\n%s", got, want, list, wantNetText(n))
		}
		if !hn.isUntouched() || !hl.isUntouched() || !areApart(hn.now, hl.now, got) {
			t.Fatal("an argument was written, or memory is shared")
		}
	}
}

// TestP34TheFirst80 has something to do as the 80th and as the 81st event; those that cannot be count, too.
func TestP34TheFirst80(t *testing.T) {
	n := mustNet(twinText)
	for size, want := range map[int]int{0: 1, 1: 1, 78: 1, 79: 1, 80: 0, 81: 0, 500: 0} {
		list := append(slices.Repeat([]impl.Event{loses(3)}, size), pushes(0), pushes(0), pushes(0))
		w := impl.WorldPlay(n, list)
		if len(w.Log) != min(3, max(0, 80-size)) || bit(len(w.Log) > 0) != want || !impl.WorldSafe(w) {
			t.Errorf("%d: %v", size, w.Log)
		}
	}
	if w := impl.WorldPlay(n, slices.Repeat([]impl.Event{ticks(1)}, 81)); len(w.Radio) != 40 || w.Radio[39] != wantFrameText(ack(0, 0)) {
		t.Errorf("%v", w.Radio)
	}
	if w := impl.WorldPlay(n, slices.Repeat([]impl.Event{pushes(0), takes(2), ticks(0), brings(0), brings(0), takes(0), ticks(1), brings(0)}, 100000)); len(w.Log) > 80 || !impl.WorldSafe(w) {
		t.Errorf("%v", w.Log)
	}
}
