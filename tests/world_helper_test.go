package tests

import (
	"fmt"
	"math/rand"
	"slices"
	"strings"
	"testing"

	"loop.example/telltale/impl"
)

const (
	// twinText has a block that tells twice by one event, on one node, and two that pass on what they heard, on the two others.
	twinText = "block count\nin tick\nout up n\nvar c 0\nstate wait\non tick add 1\nstate add\non - wait 1\nset c c+1\nset n c\ntell up\ntell up\nblock gate\nin val x\nout pass y\nstate open\non val fwd 1\nstate fwd\non - open 1\nset y y*10+x\ntell pass\nuse p count 0\nuse q gate 1\nuse r gate 2\nwire p.up q.val\nwire q.pass r.val\nsource p.tick\nsink r.pass\n"
	// halfText is the chain on two nodes: its first and its last wire cross, the two between them do not.
	halfText = countText + passText + "use p count 0\nuse q pass 1\nuse r pass 1\nuse s pass 0\nwire p.up q.val\nwire q.low r.val\nwire q.high r.val\nwire r.low s.val\nsource p.tick\nsource q.two\nsink s.high\nsink r.low\n"
)

func pushes(at int, vals ...int) impl.Event {
	return impl.Event{Kind: impl.WorldPush, At: at, Vals: vals}
}

func takes(way int) impl.Event { return impl.Event{Kind: impl.WorldTake, At: way} }

func ticks(node int) impl.Event { return impl.Event{Kind: impl.WorldTick, At: node} }

func brings(at int) impl.Event { return impl.Event{Kind: impl.WorldBring, At: at} }

func keeps(at int) impl.Event { return impl.Event{Kind: impl.WorldKeep, At: at} }

func loses(at int) impl.Event { return impl.Event{Kind: impl.WorldLose, At: at} }

func spoils(at, num int) impl.Event {
	return impl.Event{Kind: impl.WorldSpoil, At: at, Num: num}
}

// crossing says whether a wire leads from one node to another one.
func crossing(n impl.Net, wire int) bool {
	w := n.Wires[wire]
	return n.Uses[useOf(n, w.From.Use)].Node != n.Uses[useOf(n, w.To.Use)].Node
}

// crossings is how many wires of a net cross.
func crossings(n impl.Net) int {
	count := 0
	for wire := range n.Wires {
		count += bit(crossing(n, wire))
	}
	return count
}

func allFit(list [][]int, size int) bool {
	return !slices.ContainsFunc(list, func(vals []int) bool { return !fits(vals, size) })
}

// wantWorldOk is what the document asks of a world whose net is ok.
func wantWorldOk(w impl.World) bool {
	n, ends := w.Net, wayEnds(w.Net)
	if !wantOneOk(n, impl.One{Insts: w.Insts, Ways: make([]impl.Way, len(ends)), Out: w.Out}) {
		return false
	}
	if len(w.Sends) != len(n.Wires) || len(w.Recvs) != len(ends) || len(w.Log) > 500 || len(w.Radio) > 40 {
		return false
	}
	for i, s := range w.Sends {
		if !wantSendOk(s) || !allFit(s.Wait, outSize(n, n.Wires[i].From)) || !crossing(n, i) && !same(s, impl.Send{}) {
			return false
		}
	}
	for i, x := range w.Recvs {
		if !wantRecvOk(x) || !allFit(x.List, inSize(n, ends[i])) {
			return false
		}
	}
	for _, d := range w.Log {
		pushed := d.Kind == 1 && d.At >= 0 && d.At < len(n.Sources) && fits(d.Vals, inSize(n, n.Sources[max(0, min(d.At, len(n.Sources)-1))]))
		taken := d.Kind == 2 && d.At >= 0 && d.At < len(ends) && len(d.Vals) == 0
		if !pushed && !taken {
			return false
		}
	}
	return !slices.ContainsFunc(w.Radio, func(s string) bool { return len(s) > 80 })
}

// roomOf is how often something could be put on a wire, one behind the other.
func roomOf(w impl.World, wire int) int {
	room := 0
	if crossing(w.Net, wire) {
		for s, ok := wantSendPut(w.Sends[wire], nil); ok; s, ok = wantSendPut(s, nil) {
			room++
		}
		return room
	}
	x := w.Recvs[wire]
	for next := wantRecvPut(x, x.Next, nil); next.Next > x.Next; next = wantRecvPut(x, x.Next, nil) {
		x = next
		room++
	}
	return room
}

// wantWorldDo is what the document asks for of a world that is ok, by names.
func wantWorldDo(w impl.World, e impl.Event) (impl.World, bool) {
	now := copyOf(w)
	if !wantEvent(&now, e) {
		return w, false
	}
	return now, true
}

func wantEvent(w *impl.World, e impl.Event) bool {
	switch e.Kind {
	case 1:
		return wantPush(w, e.At, e.Vals)
	case 2:
		return wantTake(w, e.At)
	case 3:
		return wantTick(w, e.At)
	}
	if e.Kind < 4 || e.Kind > 7 || e.At < 0 || e.At >= len(w.Radio) {
		return false
	}
	text := w.Radio[e.At]
	if e.Kind == 4 || e.Kind == 5 {
		wantComes(w, text)
	}
	if e.Kind == 4 || e.Kind == 6 {
		w.Radio = slices.Concat(w.Radio[:e.At], w.Radio[e.At+1:])
	}
	if e.Kind == 7 {
		if e.Num < 0 || text == "" {
			return false
		}
		at := e.Num % len(text)
		w.Radio[e.At] = text[:at] + "\xff" + text[at+1:]
	}
	return true
}

func wantPush(w *impl.World, at int, vals []int) bool {
	n := w.Net
	if at < 0 || at >= len(n.Sources) || !fits(vals, inSize(n, n.Sources[at])) || len(w.Log) == 500 {
		return false
	}
	x := &w.Recvs[len(n.Wires)+at]
	if len(x.List) == 3 || x.Next == 9999 {
		return false
	}
	*x = wantRecvPut(*x, x.Next, vals)
	w.Log = append(w.Log, push(at, vals...))
	return true
}

func wantTake(w *impl.World, at int) bool {
	n, ends := w.Net, wayEnds(w.Net)
	if at < 0 || at >= len(ends) || len(w.Recvs[at].List) == 0 || len(w.Log) == 500 {
		return false
	}
	use := ends[at].Use
	b := wantBlock(n, use)
	for i, x := range n.Wires {
		if x.From.Use == use && roomOf(*w, i) < wantMost(b, x.From.Event) {
			return false
		}
	}
	vals := w.Recvs[at].List[0]
	w.Recvs[at].List = w.Recvs[at].List[1:]
	inst, told := wantStep(b, w.Insts[useOf(n, use)], portOf(b.Ins, ends[at].Event), vals)
	w.Insts[useOf(n, use)] = inst
	for _, x := range told {
		wantTold(w, end(use, b.Outs[x.Out].Name), x.Vals)
	}
	w.Log = append(w.Log, take(at))
	return true
}

func wantTold(w *impl.World, from impl.End, vals []int) {
	for i, x := range w.Net.Wires {
		if x.From == from && crossing(w.Net, i) {
			w.Sends[i], _ = wantSendPut(w.Sends[i], vals)
		} else if x.From == from {
			w.Recvs[i] = wantRecvPut(w.Recvs[i], w.Recvs[i].Next, vals)
		}
	}
	for i, e := range w.Net.Sinks {
		if e == from && len(w.Out) < 200 {
			w.Out = append(w.Out, said(i, vals...))
		}
	}
}

func wantTick(w *impl.World, node int) bool {
	n := w.Net
	for i, x := range n.Wires {
		var frames []impl.Frame
		if crossing(n, i) && n.Uses[useOf(n, x.From.Use)].Node == node {
			frames = wantSendFrames(i, w.Sends[i])
		} else if crossing(n, i) && n.Uses[useOf(n, x.To.Use)].Node == node {
			frames = []impl.Frame{wantRecvAck(i, w.Recvs[i])}
		}
		for _, f := range frames {
			if len(w.Radio) < 40 {
				w.Radio = append(w.Radio, wantFrameText(f))
			}
		}
	}
	return node >= 0 && node <= 2
}

func wantComes(w *impl.World, text string) {
	f, ok := impl.FrameGet(text)
	if !ok || f.Wire >= len(w.Net.Wires) || !crossing(w.Net, f.Wire) {
		return
	}
	if f.Kind == impl.FrameAck {
		w.Sends[f.Wire] = wantSendAck(w.Sends[f.Wire], f.Seq)
	} else if len(f.Vals) == inSize(w.Net, w.Net.Wires[f.Wire].To) {
		w.Recvs[f.Wire] = wantRecvPut(w.Recvs[f.Wire], f.Seq, f.Vals)
	}
}

// wantCalm is so many rounds as the document asks for.
func wantCalm(w impl.World, rounds int) impl.World {
	w = copyOf(w)
	for range min(rounds, 60) {
		for again, over := true, 0; again && over < 100; over++ {
			again = false
			for way := range w.Recvs {
				again = wantEvent(&w, takes(way)) || again
			}
		}
		for node := range 3 {
			wantEvent(&w, ticks(node))
		}
		for len(w.Radio) > 0 {
			wantEvent(&w, brings(0))
		}
	}
	return w
}

// wantOnWay is what the document asks to be on a way of one place, and whether it can be told.
func wantOnWay(w impl.World, way int) ([][]int, bool) {
	list := w.Recvs[way].List
	if way >= len(w.Net.Wires) || !crossing(w.Net, way) {
		return list, true
	}
	came, wait := w.Recvs[way].Next-w.Sends[way].Base, w.Sends[way].Wait
	if came < 0 || came > len(wait) {
		return nil, false
	}
	return slices.Concat(list, wait[came:]), true
}

// wantSafe is what the document asks for of a world that is ok.
func wantSafe(w impl.World) bool {
	one := impl.OneRun(w.Net, w.Log)
	for i := range w.Recvs {
		if list, ok := wantOnWay(w, i); !ok || !same(one.Ways[i].List, list) {
			return false
		}
	}
	return same(one.Insts, w.Insts) && same(one.Out, w.Out)
}

func wantDone(w impl.World) bool {
	for _, s := range w.Sends {
		if len(s.Wait) > 0 {
			return false
		}
	}
	for _, x := range w.Recvs {
		if len(x.List) > 0 {
			return false
		}
	}
	return true
}

// keepsWorldDo asks WorldDo for what the document asks for, and that nothing is written or shared.
func keepsWorldDo(t *testing.T, w impl.World, e impl.Event) (impl.World, bool) {
	t.Helper()
	hw, he := hand(w), hand(e)
	got, ok := impl.WorldDo(hw.now, he.now)
	want, wantOk := wantWorldDo(w, e)
	if ok != wantOk || !same(got, want) {
		t.Fatalf("%v: %v %v, not %v %v, from %v\n%s", e, ok, got, wantOk, want, w, wantNetText(w.Net))
	}
	if !hw.isUntouched() || !he.isUntouched() {
		t.Fatalf("%v: an argument was written", e)
	}
	if !areApart(hw.now, he.now, got) {
		t.Fatalf("%v: memory is shared", e)
	}
	if !impl.WorldOk(got) || len(got.Out) < len(w.Out) || !same(got.Out[:len(w.Out)], w.Out) || len(got.Log) < len(w.Log) || !same(got.Log[:len(w.Log)], w.Log) || !ok && !same(got, w) {
		t.Fatalf("%v: %v is not as promised, from %v", e, got, w)
	}
	return got, ok
}

// keepsCalm asks WorldCalm for what the document asks for, and that nothing is written or shared.
func keepsCalm(t *testing.T, w impl.World, rounds int) impl.World {
	t.Helper()
	h := hand(w)
	got := impl.WorldCalm(h.now, rounds)
	if want := wantCalm(w, rounds); !same(got, want) {
		t.Fatalf("%d: %v, not %v, from %v\n%s", rounds, got, want, w, wantNetText(w.Net))
	}
	if !h.isUntouched() || !areApart(h.now, got) {
		t.Fatalf("%d: an argument was written, or memory is shared", rounds)
	}
	return got
}

// happens does all events to a world, each of which can be.
func happens(t *testing.T, w impl.World, list ...impl.Event) impl.World {
	t.Helper()
	return inTurn(t, keepsWorldDo, w, list)
}

// inTurn does all events to a thing, each of which can be.
func inTurn[T any](t *testing.T, do func(*testing.T, T, impl.Event) (T, bool), x T, list []impl.Event) T {
	t.Helper()
	for i, e := range list {
		next, ok := do(t, x, e)
		if !ok {
			t.Fatalf("%d: %v cannot be: %v", i, e, x)
		}
		x = next
	}
	return x
}

// sizedLists is lists at an end of a wire whose event brings so many values.
func sizedLists(r *rand.Rand, size int) [][]int {
	var out [][]int
	for range r.Intn(4) {
		out = append(out, some32s(r, size))
	}
	return out
}

// someWorld is any world that is ok, mostly one that could not have come to be; its numbers are often at their limits.
func someWorld(r *rand.Rand, n impl.Net) impl.World {
	o := someOne(r, n)
	w := impl.World{Net: n, Insts: o.Insts, Out: o.Out}
	for i, e := range wayEnds(n) {
		x := someRecv(r)
		x.List = sizedLists(r, inSize(n, e))
		x.Next = max(x.Next, len(x.List))
		if r.Intn(2) == 0 {
			x.Next = len(x.List) + r.Intn(3)
		}
		if i < len(n.Wires) {
			w.Sends = append(w.Sends, someSendFor(r, n, i, x))
		}
		w.Recvs = append(w.Recvs, x)
	}
	for range []int{0, 1, 4, 39, 40}[r.Intn(5)] {
		w.Radio = append(w.Radio, someText(r, w))
	}
	if len(n.Sources) > 0 || len(n.Wires) > 0 {
		for range []int{0, 1, 4, 499, 500}[r.Intn(5)] {
			w.Log = append(w.Log, someLogged(r, n))
		}
	}
	return w
}

// someSendFor is a sender of a wire, mostly one that fits to its receiver.
func someSendFor(r *rand.Rand, n impl.Net, wire int, x impl.Recv) impl.Send {
	if !crossing(n, wire) {
		return impl.Send{}
	}
	s := someSend(r)
	s.Wait = sizedLists(r, outSize(n, n.Wires[wire].From))
	if r.Intn(3) > 0 {
		s.Base = x.Next - r.Intn(len(s.Wait)+1)
	}
	s.Base = max(0, min(s.Base, 9999-len(s.Wait)))
	return s
}

func someLogged(r *rand.Rand, n impl.Net) impl.Do {
	if at := r.Intn(len(n.Sources) + 1); at < len(n.Sources) {
		return push(at, some32s(r, inSize(n, n.Sources[at]))...)
	}
	return take(r.Intn(len(n.Wires) + len(n.Sources)))
}

// someText is something under way: mostly a frame that could come, or one with something that is not as it is to be.
func someText(r *rand.Rand, w impl.World) string {
	long := strings.Repeat("1 0 ", 20)
	if len(w.Net.Wires) == 0 || r.Intn(5) == 0 {
		return []string{"", "1 0 0", long, wantFrameText(someFrame(r))}[r.Intn(4)]
	}
	wire := r.Intn(len(w.Net.Wires))
	near := r.Intn(5) - 1
	if r.Intn(2) == 0 {
		return wantFrameText(ack(wire, max(0, min(9999, w.Sends[wire].Base+near))))
	}
	size := inSize(w.Net, w.Net.Wires[wire].To)
	if r.Intn(5) == 0 {
		size = r.Intn(4)
	}
	return wantFrameText(data(wire, max(0, min(9999, w.Recvs[wire].Next+max(near-2, -1))), some32s(r, size)...))
}

// someEvent is something that can mostly happen in a world, or nearly.
func someEvent(r *rand.Rand, w impl.World) impl.Event {
	n := w.Net
	ways := len(w.Recvs)
	air := r.Intn(len(w.Radio) + 1)
	if len(w.Radio) > 3 && r.Intn(2) == 0 {
		return brings(r.Intn(2))
	}
	switch r.Intn(16) {
	case 0:
		return impl.Event{Kind: r.Intn(10) - 1, At: r.Intn(12) - 1, Num: r.Intn(200) - 20, Vals: someValues(r, r.Intn(4))}
	case 1, 2, 3:
		if len(n.Sources) > 0 {
			at := r.Intn(len(n.Sources))
			return pushes(at, some32s(r, inSize(n, n.Sources[at]))...)
		}
	case 4, 5, 6:
		return ticks(r.Intn(3))
	case 7:
		return brings(air)
	case 8:
		return []impl.Event{keeps(air), loses(air), spoils(air, r.Intn(100))}[r.Intn(3)]
	}
	return takes(r.Intn(ways + 1))
}

// someStory is so many events that can mostly happen, one behind the other, from a new world on, and the world behind them.
func someStory(r *rand.Rand, n impl.Net, size int) ([]impl.Event, impl.World) {
	w := impl.World{Net: n, Insts: wantNew(n).Insts, Sends: make([]impl.Send, len(n.Wires)), Recvs: make([]impl.Recv, len(wayEnds(n)))}
	var list []impl.Event
	for range size {
		e := someEvent(r, w)
		wantEvent(&w, e)
		list = append(list, e)
	}
	return list, w
}

// wiredNets is nets of all kinds, on one node, on two, on three, and as their uses stand.
func wiredNets(r *rand.Rand, size int) []impl.Net {
	nets := []impl.Net{mustNet(twinText), mustNet(halfText), mustNet(chainText), starNet()}
	for len(nets) < size {
		n := someNet(r)
		if len(n.Wires) < 2 || len(n.Sources) == 0 {
			continue
		}
		switch len(nets) % 6 {
		case 0:
			n = impl.NetMove(n, r.Intn(3))
		case 1:
			n = impl.NetMove(n, -1)
		case 2, 3:
			for i := range n.Uses {
				n.Uses[i].Node = 1 + r.Intn(2)
			}
		}
		nets = append(nets, n)
	}
	return nets
}

// livelyNets is nets in which much is told, on any nodes.
func livelyNets(r *rand.Rand, size int) []impl.Net {
	var nets []impl.Net
	for i := range size {
		n := []impl.Net{mustNet(twinText), mustNet(halfText), starNet(), tripleNet(5, 0)}[i%4]
		for j := range n.Uses {
			n.Uses[j].Node = r.Intn(3)
		}
		nets = append(nets, n)
	}
	return nets
}

// tripleNet has five blocks in a row: three tell thrice by each event, the fourth thrice by the first so many, and then once; the last one counts what it takes.
func tripleNet(thrice int, node int) impl.Net {
	return impl.NetMove(mustNet("block tri\nin e\nout o\nstate s\non e t 1\nstate t\non - s 1\ntell o\ntell o\ntell o\n"+
		fmt.Sprintf("block some\nin e\nout o\nvar c 0\nstate s\non e many c<%d\non e one 1\n", thrice)+
		"state many\non - s 1\nset c c+1\ntell o\ntell o\ntell o\nstate one\non - s 1\ntell o\n"+
		"block last\nin e\nout o n\nvar c 0\nstate s\non e t 1\nstate t\non - s 1\nset c c+1\nset n c\ntell o\n"+
		"use a tri 0\nuse b tri 0\nuse c tri 0\nuse d some 0\nuse e last 0\n"+
		"wire a.o b.e\nwire b.o c.e\nwire c.o d.e\nwire d.o e.e\nsource a.e\nsink e.o\n"), node)
}
