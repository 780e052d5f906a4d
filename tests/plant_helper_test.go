package tests

import (
	"math/rand"
	"slices"
	"testing"

	"loop.example/telltale/impl"
)

func saves(node int) impl.Event { return impl.Event{Kind: impl.PlantSave, At: node} }

func falls(node int) impl.Event { return impl.Event{Kind: impl.PlantFall, At: node} }

func nodeOf(n impl.Net, e impl.End) int { return n.Uses[useOf(n, e.Use)].Node }

// doneAt is the node at which something was done.
func doneAt(n impl.Net, d impl.Do) int {
	if d.Kind == impl.DoPush {
		return nodeOf(n, n.Sources[d.At])
	}
	return nodeOf(n, wayEnds(n)[d.At])
}

func toldAt(n impl.Net, x impl.Said) int { return nodeOf(n, n.Sinks[x.Sink]) }

// wantPicture is the picture of a node that the document asks for.
func wantPicture(w impl.World, node int) impl.Part {
	var p impl.Part
	for i, u := range w.Net.Uses {
		if u.Node == node {
			p.Insts = append(p.Insts, w.Insts[i])
		}
	}
	for i, x := range w.Net.Wires {
		if nodeOf(w.Net, x.From) == node {
			p.Sends = append(p.Sends, w.Sends[i])
		}
	}
	for i, e := range wayEnds(w.Net) {
		if nodeOf(w.Net, e) == node {
			p.Recvs = append(p.Recvs, w.Recvs[i])
		}
	}
	for _, d := range w.Log {
		p.Log += bit(doneAt(w.Net, d) == node)
	}
	for _, x := range w.Out {
		p.Out += bit(toldAt(w.Net, x) == node)
	}
	return copyOf(p)
}

// wantBack is a world in which a node is back to a picture. It goes over the lists from behind, so that what is too much goes until as much is left as is to stay.
func wantBack(w impl.World, node int, p impl.Part) impl.World {
	w, p = copyOf(w), copyOf(p)
	now := wantPicture(w, node)
	for i := len(w.Insts) - 1; i >= 0; i-- {
		if last := len(p.Insts) - 1; w.Net.Uses[i].Node == node {
			w.Insts[i], p.Insts = p.Insts[last], p.Insts[:last]
		}
	}
	for i := len(w.Sends) - 1; i >= 0; i-- {
		if last := len(p.Sends) - 1; nodeOf(w.Net, w.Net.Wires[i].From) == node {
			w.Sends[i], p.Sends = p.Sends[last], p.Sends[:last]
		}
	}
	for i := len(w.Recvs) - 1; i >= 0; i-- {
		if last := len(p.Recvs) - 1; nodeOf(w.Net, wayEnds(w.Net)[i]) == node {
			w.Recvs[i], p.Recvs = p.Recvs[last], p.Recvs[:last]
		}
	}
	for i := len(w.Log) - 1; i >= 0 && now.Log > p.Log; i-- {
		if doneAt(w.Net, w.Log[i]) == node {
			w.Log = slices.Delete(w.Log, i, i+1)
			now.Log--
		}
	}
	w.Out = wantStays(w.Net, w.Out, node, now.Out-p.Out)
	return w
}

// wantStays is what was told outside without the last so many of a node.
func wantStays(n impl.Net, out []impl.Said, node, gone int) []impl.Said {
	out = copyOf(out)
	for i := len(out) - 1; i >= 0 && gone > 0; i-- {
		if toldAt(n, out[i]) == node {
			out = slices.Delete(out, i, i+1)
			gone--
		}
	}
	return out
}

// wantPlantOk is what the document asks of a plant whose net is ok.
func wantPlantOk(p impl.Plant) bool {
	if !wantWorldOk(p.World) || len(p.Saved) != 3 {
		return false
	}
	for node, x := range p.Saved {
		now := wantPicture(p.World, node)
		if len(x.Insts) != len(now.Insts) || len(x.Sends) != len(now.Sends) || len(x.Recvs) != len(now.Recvs) {
			return false
		}
		if x.Log < 0 || x.Log > now.Log || x.Out < 0 || x.Out > now.Out || !wantWorldOk(wantBack(p.World, node, x)) {
			return false
		}
	}
	return true
}

// wantPlantNew is the new plant that the document asks for.
func wantPlantNew(n impl.Net) impl.Plant {
	p := impl.Plant{World: impl.WorldNew(n)}
	for node := range 3 {
		p.Saved = append(p.Saved, wantPicture(p.World, node))
	}
	return p
}

// wantPlantDo is what the document asks for of a plant that is ok.
func wantPlantDo(p impl.Plant, e impl.Event) (impl.Plant, bool) {
	p = copyOf(p)
	isNode := e.At >= 0 && e.At <= 2
	if e.Kind == 9 && isNode {
		p.World = wantBack(p.World, e.At, p.Saved[e.At])
		return p, true
	}
	if (e.Kind == 8 || e.Kind == 3) && isNode {
		p.Saved[e.At] = wantPicture(p.World, e.At)
	}
	return p, e.Kind == 8 && isNode || wantEvent(&p.World, e)
}

// wantPlantTold is what the document asks to stay of what was told outside by a plant that is ok.
func wantPlantTold(p impl.Plant) []impl.Said {
	out := p.World.Out
	for node, x := range p.Saved {
		out = wantStays(p.World.Net, out, node, wantPicture(p.World, node).Out-x.Out)
	}
	return out
}

// wantPlantSafe is what the document asks for of a plant that is ok.
func wantPlantSafe(p impl.Plant) bool {
	for node, x := range p.Saved {
		if !wantSafe(wantBack(p.World, node, x)) {
			return false
		}
	}
	return wantSafe(p.World)
}

// keepsPlantDo asks PlantDo for what the document asks for, and that nothing is written or shared.
func keepsPlantDo(t *testing.T, p impl.Plant, e impl.Event) (impl.Plant, bool) {
	t.Helper()
	hp, he := hand(p), hand(e)
	got, ok := impl.PlantDo(hp.now, he.now)
	want, wantOk := wantPlantDo(p, e)
	if ok != wantOk || !same(got, want) {
		t.Fatalf("%v: %v %v, not %v %v, from %v\n%s", e, ok, got, wantOk, want, p, wantNetText(p.World.Net))
	}
	if !hp.isUntouched() || !he.isUntouched() || !areApart(hp.now, he.now, got) {
		t.Fatalf("%v: an argument was written, or memory is shared", e)
	}
	if !impl.PlantOk(got) || !ok && !same(got, p) {
		t.Fatalf("%v: %v is not as promised, from %v", e, got, p)
	}
	return got, ok
}

// befalls does all events to a plant, each of which can be.
func befalls(t *testing.T, p impl.Plant, list ...impl.Event) impl.Plant {
	t.Helper()
	return inTurn(t, keepsPlantDo, p, list)
}

// isPart says whether all of a list stands in another one, in order.
func isPart(list, all []impl.Said) bool {
	for _, x := range all {
		if len(list) > 0 && same(list[0], x) {
			list = list[1:]
		}
	}
	return len(list) == 0
}

// somePlant is any plant that is ok, mostly one that could not have come to be: its pictures are of any other worlds.
func somePlant(r *rand.Rand, n impl.Net) impl.Plant {
	p := impl.Plant{World: someWorld(r, n)}
	for node := range 3 {
		seen, now := wantPicture(someWorld(r, n), node), wantPicture(p.World, node)
		seen.Log = []int{0, now.Log, r.Intn(now.Log + 1)}[r.Intn(3)]
		seen.Out = []int{0, now.Out, r.Intn(now.Out + 1)}[r.Intn(3)]
		p.Saved = append(p.Saved, seen)
	}
	return p
}

// somePlantEvent is something that can mostly happen to a plant, or nearly.
func somePlantEvent(r *rand.Rand, p impl.Plant) impl.Event {
	switch r.Intn(12) {
	case 0:
		return saves(r.Intn(3))
	case 1:
		return falls(r.Intn(3))
	case 2:
		return impl.Event{Kind: 8 + r.Intn(2), At: r.Intn(5) - 1, Num: r.Intn(5), Vals: someValues(r, r.Intn(3))}
	}
	return someEvent(r, p.World)
}

// somePlantStory is so many events that can mostly happen, one behind the other, from a new plant on, and the plant behind them.
func somePlantStory(r *rand.Rand, n impl.Net, size int) ([]impl.Event, impl.Plant) {
	p := wantPlantNew(n)
	var list []impl.Event
	for range size {
		e := somePlantEvent(r, p)
		p, _ = wantPlantDo(p, e)
		list = append(list, e)
	}
	return list, p
}
