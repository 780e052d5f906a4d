package tests

import (
	"math/rand"
	"runtime"
	"slices"
	"strings"
	"sync"
	"testing"
	"time"

	"loop.example/telltale/impl"
)

// mishaps is events of a net by which frames are late, lost, doubled and spoilt.
func mishaps() []impl.Event {
	return []impl.Event{
		pushes(0), pushes(0), takes(2), ticks(0), // two of the first wire are under way
		keeps(1), brings(1), // the second one is ahead, and does not come
		ticks(0), spoils(0, 2), brings(0), // the first one is spoilt
		keeps(0), keeps(0), brings(0), brings(0), // the first one comes three times, then the second
		takes(0), ticks(1), loses(0), ticks(1), ticks(1), // what came is told, and told anew
		brings(0), brings(2), takes(2), brings(0), // late
		ticks(0), ticks(1), brings(1), brings(0), takes(0), takes(0), brings(0), brings(0), brings(0), takes(1), ticks(2),
	}
}

func TestP35FramesLateLostDoubledAndSpoilt(t *testing.T) {
	n := mustNet(twinText)
	list := mishaps()
	for size := range list {
		w := impl.WorldPlay(n, list[:size+1])
		one := impl.OneRun(n, w.Log)
		if !impl.WorldOk(w) || !impl.WorldSafe(w) || !wantSafe(w) || !same(w.Insts, one.Insts) || !same(w.Out, one.Out) {
			t.Fatalf("%d: %v, not %v", size, w, one)
		}
		end := keepsCalm(t, w, 20)
		pushed := bit(size > 0) + 1
		if !impl.WorldDone(end) || !impl.WorldSafe(end) || len(end.Out) != 2*pushed || !same(end.Out, impl.OneRun(impl.NetMove(n, 0), end.Log).Out) {
			t.Fatalf("%d: %v", size, end)
		}
	}
}

// TestP35NoWorldThatIsNotSo changes one thing of a world that is safe, by which it is not any more, but still ok.
func TestP35NoWorldThatIsNotSo(t *testing.T) {
	n := mustNet(twinText)
	w := impl.WorldPlay(n, []impl.Event{pushes(0), pushes(0), takes(2), ticks(0), brings(0), takes(0), ticks(1), pushes(0), brings(0), brings(0), ticks(0), brings(1)})
	w = happens(t, w, takes(0), ticks(1), ticks(0), brings(0))
	cases := []struct {
		name string
		turn func(w *impl.World)
		want bool
	}{
		{"as it is", func(w *impl.World) {}, true},
		{"nothing under way", func(w *impl.World) { w.Radio = nil }, true},
		{"another state", func(w *impl.World) { w.Insts[0].State = 1 }, false},
		{"another value", func(w *impl.World) { w.Insts[1].Vals[1]++ }, false},
		{"something told", func(w *impl.World) { w.Out = append(w.Out, said(0, 1)) }, false},
		{"one pushed more", func(w *impl.World) { w.Recvs[2] = receiver(4, nil, nil, nil) }, false},
		{"one pushed less", func(w *impl.World) { w.Recvs[2].List = w.Recvs[2].List[1:] }, false},
		{"numbers of pushes", func(w *impl.World) { w.Recvs[2].Next = 77 }, true},
		{"what waits", func(w *impl.World) { w.Sends[1].Wait[1][0]++ }, false},
		{"what waits, but came", func(w *impl.World) { w.Sends[1].Wait[0][0]++ }, true},
		{"one waits less", func(w *impl.World) { w.Sends[1].Wait = w.Sends[1].Wait[:1] }, false},
		{"one waits more", func(w *impl.World) { w.Sends[1].Wait = append(w.Sends[1].Wait, []int{1}) }, false},
		{"what came", func(w *impl.World) { w.Recvs[1].List[0][0]++ }, false},
		{"what came is gone", func(w *impl.World) { w.Recvs[1].List = nil }, false},
		{"what came is not counted", func(w *impl.World) { w.Recvs[1] = receiver(0) }, true},
		{"what waits came", func(w *impl.World) { w.Recvs[1] = receiver(2, w.Sends[1].Wait...) }, true},
		{"more came than went", func(w *impl.World) { w.Recvs[1] = receiver(3, w.Sends[1].Wait...) }, false},
		{"numbers of both ends", func(w *impl.World) { w.Recvs[1].Next, w.Sends[1].Base = 501, 500 }, true},
		{"numbers of one end", func(w *impl.World) { w.Sends[1].Base = 1 }, false},
		{"less came than is known", func(w *impl.World) { w.Sends[1].Base, w.Recvs[1] = 5, receiver(4, w.Recvs[1].List...) }, false},
		{"one done less", func(w *impl.World) { w.Log = w.Log[:len(w.Log)-1] }, false},
		{"two done more", func(w *impl.World) { w.Log = append(w.Log, take(1), take(1)) }, false},
		{"one done that could not be, at first", func(w *impl.World) { w.Log = slices.Insert(w.Log, 0, take(1)) }, true},
		{"in another order", func(w *impl.World) { slices.Reverse(w.Log) }, false},
	}
	for _, c := range cases {
		x := copyOf(w)
		c.turn(&x)
		h := hand(x)
		if got := impl.WorldSafe(h.now); got != c.want || got != wantSafe(x) || !impl.WorldOk(x) || !h.isUntouched() {
			t.Errorf("%s: %v, not %v: %v", c.name, got, c.want, x)
		}
	}
	star := happens(t, impl.WorldNew(starNet()), pushes(0, 7), takes(7))
	for at := range star.Out {
		for _, x := range []impl.Said{said(0, 70), said(1, 70), said(2, 71), said(2, -70)} {
			turned := copyOf(star)
			turned.Out[at] = x
			if !impl.WorldSafe(star) || !impl.WorldOk(turned) || impl.WorldSafe(turned) {
				t.Errorf("%v was not told", x)
			}
		}
	}
	half := impl.WorldPlay(mustNet(halfText), []impl.Event{pushes(0), takes(4), ticks(0), brings(0), takes(0)})
	if !impl.WorldSafe(half) || len(half.Recvs[1].List) != 1 {
		t.Fatal(half)
	}
	half.Recvs[1].Next = 3
	if !impl.WorldSafe(half) {
		t.Error("numbers matter to a wire that stays")
	}
	half.Recvs[1] = receiver(1)
	if impl.WorldSafe(half) {
		t.Error("what is gone from a wire that stays does not matter")
	}
}

// TestP35To37AsPromised plays all that can happen, on all kinds of nodes, and holds what is there against the words of the promises.
func TestP35To37AsPromised(t *testing.T) {
	r := rand.New(rand.NewSource(36))
	told, came, crossed := 0, 0, 0
	for _, n := range slices.Concat(wiredNets(r, 150), livelyNets(r, 200)) {
		list, _ := someStory(r, n, 80)
		w := impl.WorldPlay(n, list)
		one := impl.OneRun(n, w.Log)
		if !impl.WorldOk(w) || !impl.WorldSafe(w) || !same(w.Insts, one.Insts) || !same(w.Out, one.Out) || len(w.Log) > len(list) || len(w.Radio) > 40 {
			t.Fatalf("%v, not %v\n%v\n%s", w, one, list, wantNetText(n))
		}
		for i, x := range w.Recvs {
			if got, ok := wantOnWay(w, i); !ok || !same(one.Ways[i].List, got) || !impl.RecvOk(x) || len(x.List) > 3 {
				t.Fatalf("way %d: %v, not %v", i, got, one.Ways[i])
			}
			came += x.Next
		}
		for i, s := range w.Sends {
			if !impl.SendOk(s) || len(s.Wait) > 3 {
				t.Fatalf("wire %d: %v", i, s)
			}
			crossed += s.Base
		}
		told += len(w.Out)
	}
	if told < 200 || came < 1000 || crossed < 100 {
		t.Errorf("%d told, %d came, %d crossed", told, came, crossed)
	}
}

// TestP36EachOnceInOrder has values that wait, are under way, came, and are known to have come, all on one wire.
func TestP36EachOnceInOrder(t *testing.T) {
	n := mustNet(halfText)
	w := impl.WorldNew(n)
	w = happens(t, w, pushes(0), pushes(0), pushes(0), takes(4), takes(4), ticks(0), brings(0), ticks(1), brings(2), takes(4), brings(0))
	if !same(w.Sends[0], sender(1, lists(2, 3)...)) || !same(w.Recvs[0], receiver(2, lists(1, 2)...)) {
		t.Fatal(w.Sends, w.Recvs)
	}
	one := impl.OneRun(n, w.Log)
	if !same(one.Ways[0], way(lists(1, 2, 3)...)) || !impl.WorldSafe(w) || impl.WorldDone(w) {
		t.Error(one.Ways)
	}
	// A wire that stays has all at one end.
	w = happens(t, w, takes(0), takes(0))
	if one = impl.OneRun(n, w.Log); !same(one.Ways[1], way(lists(3, 5)...)) || !same(w.Recvs[1], receiver(2, lists(3, 5)...)) || !same(w.Sends[1], impl.Send{}) || !same(one.Ways[0], way([]int{3})) {
		t.Error(one.Ways, w.Recvs)
	}
}

// TestP37AsMuchAsCanBe lets as many push, tick and take as there is room for, and more.
func TestP37AsMuchAsCanBe(t *testing.T) {
	for _, n := range []impl.Net{starNet(), impl.NetMove(starNet(), 2), impl.NetMove(starNet(), -1), mustNet(twinText), mustNet(halfText)} {
		var list []impl.Event
		for i := range 80 {
			list = append(list, []impl.Event{pushes(0, 1), pushes(0), takes(len(n.Wires)), ticks(i % 3), takes(i % len(n.Wires)), keeps(i % 40)}[i%6])
		}
		for size := range 81 {
			w := impl.WorldPlay(n, list[:size])
			if !impl.WorldOk(w) || !wantWorldOk(w) || len(w.Radio) > 40 || len(w.Log) > size {
				t.Fatalf("%d: %v", size, w)
			}
		}
	}
	r := rand.New(rand.NewSource(37))
	for _, n := range slices.Concat(wiredNets(r, 8), livelyNets(r, 12)) {
		w := impl.WorldNew(n)
		for range 60 {
			for range 8 {
				w, _ = impl.WorldDo(w, someEvent(r, w))
			}
			w = impl.WorldCalm(w, r.Intn(2))
			if !impl.WorldOk(w) || !impl.WorldSafe(w) {
				t.Fatalf("%v", w)
			}
		}
	}
}

// calmsDown asks for what is promised of calms behind events.
func calmsDown(t *testing.T, w impl.World) impl.World {
	t.Helper()
	for range 4 {
		next := impl.WorldCalm(w, 4)
		if !impl.WorldOk(next) || !impl.WorldSafe(next) || len(next.Log) <= len(w.Log) && len(next.Log) < 500 && !impl.WorldDone(next) {
			t.Fatalf("%v, from %v\n%s", next, w, wantNetText(w.Net))
		}
		w = next
	}
	return w
}

func TestP38SomethingIsAlwaysDone(t *testing.T) {
	r := rand.New(rand.NewSource(38))
	done := map[bool]int{}
	for _, n := range slices.Concat(wiredNets(r, 150), livelyNets(r, 150)) {
		_, w := someStory(r, n, 80)
		end := calmsDown(t, w)
		done[impl.WorldDone(end)]++
		if r.Intn(5) == 0 {
			keepsCalm(t, w, 1+r.Intn(3))
		}
	}
	if done[true] < 100 {
		t.Error(done)
	}
	for _, n := range []impl.Net{tripleNet(9, 0), tripleNet(9, -1), tripleNet(40, -1)} {
		w := happens(t, impl.WorldNew(n), pushes(0), pushes(0), pushes(0))
		for range 200 {
			if w = calmsDown(t, w); len(w.Log) == 500 || impl.WorldDone(w) {
				break
			}
		}
		if len(w.Log) != 500 && !impl.WorldDone(w) {
			t.Errorf("%d were done, and no more", len(w.Log))
		}
	}
	// Radio is full of what does not come, and what waits finds no room for its frames at first.
	w := happens(t, impl.WorldNew(mustNet(twinText)), pushes(0), takes(2))
	w.Radio = slices.Repeat([]string{"no frame"}, 40)
	if end := calmsDown(t, w); !impl.WorldDone(end) || len(end.Out) != 2 {
		t.Error(end)
	}
}

func TestP39NothingIsLeftToDo(t *testing.T) {
	r := rand.New(rand.NewSource(39))
	done := 0
	for _, n := range wiredNets(r, 150) {
		w := someWorld(r, n)
		for i := range w.Sends {
			w.Sends[i].Wait = nil
		}
		for i := range w.Recvs {
			w.Recvs[i].List = nil
		}
		list, _ := someStory(r, n, 40)
		for _, w := range []impl.World{w, impl.WorldCalm(impl.WorldPlay(n, list), 30)} {
			w.Radio = nil
			if !impl.WorldDone(w) {
				continue
			}
			end := impl.WorldCalm(w, 1+r.Intn(60))
			if !same(end, w) {
				t.Fatalf("%v, not %v", end, w)
			}
			done += bit(len(w.Log) > 0)
		}
	}
	if done < 100 {
		t.Error(done)
	}
}

// TestP39WhatIsLeft has just one thing left, at each end in turn.
func TestP39WhatIsLeft(t *testing.T) {
	n := mustNet(halfText)
	for at, e := range wayEnds(n) {
		w := impl.WorldNew(n)
		w.Recvs[at] = receiver(1, make([]int, inSize(n, e)))
		if impl.WorldDone(w) || !impl.WorldOk(w) {
			t.Errorf("way %d is done", at)
		}
		if end := keepsCalm(t, w, 1); len(end.Log) == 0 || !same(end.Log[0], take(at)) {
			t.Errorf("way %d: %v", at, end.Log)
		}
		if at >= len(n.Wires) || !crossing(n, at) {
			continue
		}
		w = impl.WorldNew(n)
		w.Sends[at] = sender(0, make([]int, inSize(n, e)))
		if impl.WorldDone(w) || !impl.WorldOk(w) {
			t.Errorf("wire %d is done", at)
		}
		if end := keepsCalm(t, w, 2); len(end.Log) == 0 || !same(end.Log[0], take(at)) {
			t.Errorf("wire %d: %v", at, end.Log)
		}
	}
	w := impl.WorldNew(n)
	w.Radio = []string{wantFrameText(data(0, 0, 4))}
	if !impl.WorldDone(w) {
		t.Error("what is under way is left to do")
	}
}

// TestP40TimesThatBlocksWork has a net on one node whose last block has something to take each time, and so just as many times as can be in one round, or one more.
func TestP40TimesThatBlocksWork(t *testing.T) {
	// The first time is that of the first block: the last one has 99 times in a round.
	cases := []struct{ pushed, thrice, all int }{
		{1, 0, 27}, {1, 27, 81}, {3, 8, 97}, {2, 22, 98}, {3, 9, 99}, {2, 23, 100}, {3, 10, 101}, {2, 24, 102}, {2, 54, 162},
	}
	for _, c := range cases {
		for node := range 3 {
			w := impl.WorldNew(tripleNet(c.thrice, node))
			for range c.pushed {
				w = happens(t, w, pushes(0))
			}
			one := keepsCalm(t, w, 1)
			if taken := min(c.all, 99); len(one.Out) != taken || one.Insts[4].Vals[1] != taken || impl.WorldDone(one) != (c.all <= 99) || !impl.WorldSafe(one) {
				t.Errorf("%v: %d were told, %v are left", c, len(one.Out), one.Recvs)
			}
			two := keepsCalm(t, w, 2)
			if !impl.WorldDone(two) || len(two.Out) != c.all || !same(two, keepsCalm(t, one, 1)) {
				t.Errorf("%v: %d were told in two rounds", c, len(two.Out))
			}
		}
	}
}

func TestP40NumbersOfRounds(t *testing.T) {
	w := happens(t, impl.WorldNew(tripleNet(81, -1)), pushes(0), pushes(0), pushes(0))
	last := w
	for rounds := range 61 {
		next := impl.WorldCalm(w, rounds)
		if rounds > 0 && (!same(next, impl.WorldCalm(last, 1)) || same(next, last)) {
			t.Fatalf("%d: %v, from %v", rounds, next, last)
		}
		last = next
	}
	if impl.WorldDone(last) || len(last.Log) == 500 || same(impl.WorldCalm(last, 1), last) || !same(last, wantCalm(w, 60)) {
		t.Error("nothing is left behind the last round", len(last.Log))
	}
	for _, rounds := range []int{60, 61, 62, 100, 1 << 32, 1<<63 - 1} {
		if !same(impl.WorldCalm(w, rounds), last) {
			t.Errorf("%d rounds are others than 60", rounds)
		}
	}
	for _, rounds := range []int{0, -1, -60, -1 << 32, -1 << 63} {
		if got := keepsCalm(t, w, rounds); !same(got, w) {
			t.Errorf("%d: %v", rounds, got)
		}
	}
}

func TestP40RoundsOneBehindTheOther(t *testing.T) {
	r := rand.New(rand.NewSource(40))
	for i, n := range slices.Concat(wiredNets(r, 70), livelyNets(r, 50)) {
		_, w := someStory(r, n, r.Intn(80))
		if i%3 == 0 {
			w = someWorld(r, n)
		}
		a, b := r.Intn(5), r.Intn(6)
		if i%10 == 0 {
			a, b = 55, 5
		}
		all := keepsCalm(t, w, a+b)
		if !same(impl.WorldCalm(impl.WorldCalm(w, a), b), all) || !same(impl.WorldCalm(impl.WorldCalm(w, b), a), all) || !same(impl.WorldCalm(w, 0), w) {
			t.Fatalf("%d and %d are not all, from %v\n%s", a, b, w, wantNetText(n))
		}
	}
}

// TestP40OneRound follows one round of a small net, step by step.
func TestP40OneRound(t *testing.T) {
	w := happens(t, impl.WorldNew(mustNet(twinText)), pushes(0), pushes(0), ticks(2), spoils(0, 0), ticks(2))
	one := keepsCalm(t, w, 1)
	// The first block worked once: there was no room for its second time. What it told came, but its sender has not heard of it.
	if !same(one.Log[2:], []impl.Do{take(2)}) || !same(one.Sends[0], sender(0, lists(1, 1)...)) || !same(one.Recvs[0], receiver(2, lists(1, 1)...)) || len(one.Radio) > 0 {
		t.Error(one)
	}
	two := keepsCalm(t, one, 1)
	if !same(two.Log[3:], []impl.Do{take(0), take(0)}) || !same(two.Sends[0], sender(2)) || !same(two.Sends[1], sender(0, lists(1, 11)...)) || !same(two.Recvs[1], receiver(2, lists(1, 11)...)) || len(two.Out) > 0 {
		t.Error(two)
	}
	// Ways are gone over in order, one taken from each, so that the source, which is the last, comes behind the wires.
	three := keepsCalm(t, two, 1)
	if !same(three.Log[5:], []impl.Do{take(1), take(2), take(1)}) || !same(three.Out, []impl.Said{said(0, 1), said(0, 21)}) || !same(three.Sends[0], sender(2, lists(2, 2)...)) {
		t.Error(three)
	}
}

// TestP40NodesOneBehindTheOther has room for a few frames alone, so that they are of the first nodes, and ahead of them what does not come.
func TestP40NodesOneBehindTheOther(t *testing.T) {
	w := happens(t, impl.WorldNew(mustNet(twinText)), pushes(0), takes(2))
	for size, came := range map[int]int{36: 2, 37: 2, 38: 2, 39: 1, 40: 0} {
		w.Radio = slices.Repeat([]string{"no frame"}, size)
		one := keepsCalm(t, w, 1)
		if len(one.Radio) > 0 || one.Recvs[0].Next != came || len(one.Sends[0].Wait) != 2 {
			t.Errorf("%d: %v %v", size, one.Sends, one.Recvs)
		}
		if two := keepsCalm(t, one, 1); two.Sends[0].Base != came || two.Recvs[0].Next != 2 {
			t.Errorf("%d: %v %v", size, two.Sends, two.Recvs)
		}
	}
}

// oneWayEach is a net without all ways to a block but one.
func oneWayEach(r *rand.Rand, n impl.Net) impl.Net {
	n = copyOf(n)
	seen := map[string]bool{}
	if r.Intn(2) == 0 {
		slices.Reverse(n.Wires)
	}
	again := func(use string) bool {
		was := seen[use]
		seen[use] = true
		return was
	}
	n.Wires = slices.DeleteFunc(n.Wires, func(w impl.Wire) bool { return again(w.To.Use) })
	n.Sources = slices.DeleteFunc(n.Sources, func(e impl.End) bool { return again(e.Use) })
	return n
}

// toldBy is what one sink told, in order.
func toldBy(w impl.World, sink int) [][]int {
	var out [][]int
	for _, x := range w.Out {
		if x.Sink == sink {
			out = append(out, x.Vals)
		}
	}
	return out
}

func TestP41WhereBlocksStand(t *testing.T) {
	r := rand.New(rand.NewSource(41))
	nets := []impl.Net{mustNet(twinText), tripleNet(0, -1)}
	for len(nets) < 120 {
		if n := oneWayEach(r, wiredNets(r, 5)[4]); len(n.Sources) > 0 && len(n.Wires) > 0 {
			nets = append(nets, n)
		}
	}
	pushed, told, crossed := 0, 0, 0
	for _, n := range nets {
		w, one := impl.WorldNew(n), impl.WorldNew(impl.NetMove(n, 0))
		for range 6 {
			at := r.Intn(len(n.Sources))
			e := pushes(at, some32s(r, inSize(n, n.Sources[at]))...)
			var ok, oneOk bool
			w, ok = impl.WorldDo(w, e)
			one, oneOk = impl.WorldDo(one, e)
			if !ok || !oneOk {
				t.Fatalf("%v: %v %v", e, ok, oneOk)
			}
			w, one = impl.WorldCalm(w, 12), impl.WorldCalm(one, 12)
			if !impl.WorldDone(w) || !impl.WorldDone(one) || len(w.Out) == 200 || len(one.Out) == 200 {
				break
			}
			for sink := range n.Sinks {
				if !same(toldBy(w, sink), toldBy(one, sink)) {
					t.Fatalf("sink %d told %v, not %v\n%s", sink, toldBy(w, sink), toldBy(one, sink), wantNetText(n))
				}
			}
			if !same(w.Insts, one.Insts) {
				t.Fatalf("%v, not %v\n%s", w.Insts, one.Insts, wantNetText(n))
			}
			pushed++
		}
		told += len(w.Out)
		for _, s := range w.Sends {
			crossed += s.Base
		}
	}
	if pushed < 300 || told < 100 || crossed < 300 {
		t.Errorf("%d pushed, %d told, %d crossed", pushed, told, crossed)
	}
}

// TestP41OnOneNodeOnTwoAndOnThree has one net on all nodes that it can stand on.
func TestP41OnOneNodeOnTwoAndOnThree(t *testing.T) {
	want := []impl.Said{said(0, 1), said(0, 21), said(0, 322), said(0, 4342)}
	for at := range 27 {
		n := mustNet(twinText)
		n.Uses[0].Node, n.Uses[1].Node, n.Uses[2].Node = at%3, at/3%3, at/9
		w := impl.WorldNew(n)
		for range 2 {
			w = keepsCalm(t, happens(t, w, pushes(0)), 12)
		}
		if !impl.WorldDone(w) || !impl.WorldSafe(w) || !same(w.Insts[0], inst(0, 2, 2)) || len(w.Out) != 4 {
			t.Fatalf("%d: %v", at, w)
		}
		if !same(w.Out, want) {
			t.Errorf("%d: %v", at, w.Out)
		}
		for wire, s := range w.Sends {
			if s.Base != 4*bit(crossing(n, wire)) || w.Recvs[wire].Next != 4 {
				t.Errorf("%d: %v %v", at, w.Sends, w.Recvs)
			}
		}
		if crossings(n) != bit(at%3 != at/3%3)+bit(at/3%3 != at/9) {
			t.Error(at)
		}
	}
}

// TestP41TheExampleOfTheDocument does what the lines of the document's session do.
func TestP41TheExampleOfTheDocument(t *testing.T) {
	gate := "block gate\nin val x\nout pass y\nout drop\nstate open\non val fwd x<3\non val no 1\nstate fwd\non - open 1\nset y x*2+1\ntell pass\nstate no\non - open 1\ntell drop\n"
	n := mustNet(countText + gate + "use p count 0\nuse q gate 1\nwire p.up q.val\nsource p.tick\nsink q.pass\nsink q.drop\n")
	list := []impl.Event{pushes(0), takes(1), ticks(0), keeps(0), brings(0), takes(0), ticks(1), brings(0), pushes(0), pushes(0), pushes(0), pushes(0), takes(1), spoils(0, 3), loses(0), takes(1)}
	want := strings.Split("ok ok ok ok ok ok ok ok ok ok ok no ok no no ok", " ")
	w := impl.WorldNew(n)
	for i, e := range list {
		var ok bool
		if w, ok = keepsWorldDo(t, w, e); ok != (want[i] == "ok") {
			t.Fatalf("%d: %v: %v", i, e, ok)
		}
	}
	w = keepsCalm(t, w, 4)
	if !same(w.Out, []impl.Said{said(0, 3), said(0, 5), said(1), said(1)}) || !impl.WorldDone(w) || !impl.WorldSafe(w) || !same(w.Insts[1], inst(0, 4, 5)) {
		t.Error(w)
	}
	for _, e := range []impl.Event{pushes(0, 1), takes(7)} {
		if _, ok := keepsWorldDo(t, w, e); ok {
			t.Error(e)
		}
	}
}

// TestP41AskedByManyAtOnce asks for the same of one world from many sides: all answer alike, and nobody is left running.
func TestP41AskedByManyAtOnce(t *testing.T) {
	running := runtime.NumGoroutine()
	w := impl.WorldPlay(mustNet(twinText), mishaps())
	want := wantCalm(w, 9)
	wrong := make([]bool, 8)
	var all sync.WaitGroup
	for i := range wrong {
		all.Go(func() {
			for range 10 {
				next, ok := impl.WorldDo(w, ticks(i%3))
				wrong[i] = wrong[i] || !ok || !impl.WorldSafe(next) || !same(impl.WorldCalm(w, 9), want)
			}
		})
	}
	all.Wait()
	if slices.Contains(wrong, true) {
		t.Error(wrong)
	}
	// One that has given all its answers may still be about to end.
	for range 1000 {
		if runtime.NumGoroutine() <= running {
			return
		}
		time.Sleep(time.Millisecond)
	}
	t.Errorf("%d are running, not %d", runtime.NumGoroutine(), running)
}
