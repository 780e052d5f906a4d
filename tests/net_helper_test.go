package tests

import (
	"fmt"
	"math/rand"
	"slices"
	"strings"

	"loop.example/telltale/impl"
)

const (
	countText = "block count\nin tick\nout up n\nvar c 0\nstate wait\non tick add 1\nstate add\non - wait 1\nset c c+1\nset n c\ntell up\n"
	passText  = "block pass\nin val x\nin two x,z\nout low y\nout high y\nout both y,w\nstate s\non val a x<3\non val b 1\nstate a\non - s 1\nset y x*2+1\ntell low\nstate b\non - s 1\nset y x\ntell high\n"
	// chainText has three of one kind in a row, and one that counts ahead of them.
	chainText = countText + passText + "use p count 0\nuse q pass 1\nuse r pass 2\nuse s pass 0\nwire p.up q.val\nwire q.low r.val\nwire q.high r.val\nwire r.low s.val\nsource p.tick\nsource q.two\nsink s.high\nsink r.low\n"
)

// starText is a kind of block of which one step tells o three times, and then p once.
func starText(name string) string {
	return "block " + name + "\nin e x\nin f x\nout o y\nout p y\nvar c 0\nstate s\non e t 1\non f v x<5\nstate t\non - v 1\nset y x*10+c\ntell o\ntell o\ntell o\nstate v\non - s 1\nset c c+1\nset y c\ntell p\n"
}

// starNet meets each limit of counts at once: four kinds, five uses, seven wires, three sources and sinks, three told by a wire in one step.
func starNet() impl.Net {
	return mustNet(starText("a") + starText("b") + starText("c") + starText("d") +
		"use u1 a 0\nuse u2 b 1\nuse u3 c 2\nuse u4 d 0\nuse u5 a 2\n" +
		"wire u1.o u2.e\nwire u1.o u3.e\nwire u1.p u2.f\nwire u2.o u4.e\nwire u3.p u4.e\nwire u4.o u5.f\nwire u1.o u5.e\n" +
		"source u1.e\nsource u1.f\nsource u4.f\nsink u5.o\nsink u5.p\nsink u1.o\n")
}

// mustNet is the net of a text that is one.
func mustNet(s string) impl.Net {
	n, ok := impl.NetGet(s)
	if !ok {
		panic("not read: " + s)
	}
	return n
}

func end(use, event string) impl.End { return impl.End{Use: use, Event: event} }

func wire(from, event, to, in string) impl.Wire {
	return impl.Wire{From: end(from, event), To: end(to, in)}
}

// someNet is any net that is ok: wires lead to later uses of an order that is any, so that there is no ring.
func someNet(r *rand.Rand) impl.Net {
	var n impl.Net
	for _, name := range someNames(r, []string{"a", "gate", "use", "zzzzzz", "p"}, impl.BlockMax) {
		b := someBlock(r)
		if r.Intn(5) > 0 {
			b = someBusyBlock(r)
		}
		b.Name = name
		n.Blocks = append(n.Blocks, b)
	}
	for _, name := range someNames(r, []string{"p", "q", "wire", "a", "u99999", "block"}, impl.UseMax) {
		n.Uses = append(n.Uses, impl.Use{Name: name, Block: n.Blocks[r.Intn(len(n.Blocks))].Name, Node: r.Intn(impl.NodesMax)})
	}
	order := r.Perm(len(n.Uses))
	for range r.Intn(120) {
		someWire(r, &n, order)
	}
	for range r.Intn(8) {
		u := n.Uses[r.Intn(len(n.Uses))]
		n.Sources = addSomeEnd(r, n.Sources, u, wantBlock(n, u.Name).Ins)
		u = n.Uses[r.Intn(len(n.Uses))]
		n.Sinks = addSomeEnd(r, n.Sinks, u, wantBlock(n, u.Name).Outs)
	}
	return n
}

// someBusyBlock is a block that moves by whatever comes, and tells something in each state, as far as there is room.
func someBusyBlock(r *rand.Rand) impl.Block {
	b := someBlock(r)
	for len(b.Ins) < 2 || len(b.Outs) < 2 {
		b = someBlock(r)
	}
	for i := range b.States {
		s := &b.States[i]
		for _, p := range b.Ins {
			if len(s.Moves) < impl.MoveMax {
				s.Moves = append(s.Moves, impl.Move{Event: p.Name, When: "1", To: b.States[r.Intn(len(b.States))].Name})
			}
		}
		if len(s.Acts) < impl.ActMax {
			s.Acts = append(s.Acts, impl.Act{Kind: impl.ActTell, Name: b.Outs[r.Intn(len(b.Outs))].Name})
		}
	}
	return b
}

// someNames is one or more of a list, at most so many; often just so many.
func someNames(r *rand.Rand, list []string, most int) []string {
	for {
		if got := someOf(r, list, most); len(got) == most || len(got) > 0 && r.Intn(3) == 0 {
			return got
		}
	}
}

// someWire adds a wire, if the one that is tried can be.
func someWire(r *rand.Rand, n *impl.Net, order []int) {
	if len(order) < 2 || len(n.Wires) == impl.WireMax {
		return
	}
	late := 1 + r.Intn(len(order)-1)
	from, to := n.Uses[order[r.Intn(late)]].Name, n.Uses[order[late]].Name
	outs, ins := wantBlock(*n, from).Outs, wantBlock(*n, to).Ins
	if len(outs) == 0 || len(ins) == 0 {
		return
	}
	out, in := outs[r.Intn(len(outs))], ins[r.Intn(len(ins))]
	w := wire(from, out.Name, to, in.Name)
	if len(out.Vals) == len(in.Vals) && !slices.Contains(n.Wires, w) && wantMost(wantBlock(*n, from), out.Name) <= impl.RoomMax {
		n.Wires = append(n.Wires, w)
	}
}

func addSomeEnd(r *rand.Rand, list []impl.End, u impl.Use, ports []impl.Port) []impl.End {
	if len(ports) == 0 || len(list) == impl.EndMax {
		return list
	}
	e := end(u.Name, ports[r.Intn(len(ports))].Name)
	if slices.Contains(list, e) {
		return list
	}
	return append(list, e)
}

func useOf(n impl.Net, name string) int {
	return slices.IndexFunc(n.Uses, func(u impl.Use) bool { return u.Name == name })
}

// wantBlock is the block of a use; nothing, if there is none.
func wantBlock(n impl.Net, use string) impl.Block {
	for _, u := range n.Uses {
		for _, b := range n.Blocks {
			if u.Name == use && u.Block == b.Name {
				return b
			}
		}
	}
	return impl.Block{}
}

func portOf(ports []impl.Port, name string) int {
	return slices.IndexFunc(ports, func(p impl.Port) bool { return p.Name == name })
}

// inSize is how many values an event of Ins brings, -1, if it is none.
func inSize(n impl.Net, e impl.End) int {
	return portSize(wantBlock(n, e.Use).Ins, e.Event)
}

// outSize is how many values an event of Outs brings, -1, if it is none.
func outSize(n impl.Net, e impl.End) int {
	return portSize(wantBlock(n, e.Use).Outs, e.Event)
}

func portSize(ports []impl.Port, name string) int {
	if at := portOf(ports, name); at >= 0 {
		return len(ports[at].Vals)
	}
	return -1
}

func twice[T comparable](list []T) bool {
	seen := map[T]bool{}
	for _, x := range list {
		seen[x] = true
	}
	return len(seen) < len(list)
}

// wantNetCheck is the code that the document asks for.
func wantNetCheck(n impl.Net) int {
	var kinds, uses []string
	bad := len(n.Blocks) > impl.BlockMax
	for _, b := range n.Blocks {
		kinds = append(kinds, b.Name)
		bad = bad || wantCheck(b) != impl.FormFine
	}
	if bad || twice(kinds) {
		return impl.NetBlock
	}
	for _, u := range n.Uses {
		uses = append(uses, u.Name)
		bad = bad || !slices.Contains(kinds, u.Block) || u.Node < 0 || u.Node > 2
	}
	if bad || len(uses) == 0 || badNames(uses, impl.UseMax) {
		return impl.NetUse
	}
	for _, w := range n.Wires {
		bad = bad || outSize(n, w.From) < 0 || inSize(n, w.To) < 0 || outSize(n, w.From) != inSize(n, w.To)
	}
	if bad || len(n.Wires) > impl.WireMax || twice(n.Wires) {
		return impl.NetWire
	}
	for _, e := range n.Sources {
		bad = bad || inSize(n, e) < 0
	}
	for _, e := range n.Sinks {
		bad = bad || outSize(n, e) < 0
	}
	if bad || len(n.Sources) > impl.EndMax || len(n.Sinks) > impl.EndMax || twice(n.Sources) || twice(n.Sinks) {
		return impl.NetEnd
	}
	for _, name := range uses {
		if wiresLead(n, name, name, len(uses)) {
			return impl.NetRing
		}
	}
	for _, w := range n.Wires {
		if wantMost(wantBlock(n, w.From.Use), w.From.Event) > impl.RoomMax {
			return impl.NetRoom
		}
	}
	return impl.NetFine
}

// wiresLead says whether wires lead from a use to one, in at most so many.
func wiresLead(n impl.Net, from, to string, steps int) bool {
	if steps == 0 {
		return false
	}
	return slices.ContainsFunc(n.Wires, func(w impl.Wire) bool {
		return w.From.Use == from && (w.To.Use == to || wiresLead(n, w.To.Use, to, steps-1))
	})
}

// wantNetText is the text that the document asks for.
func wantNetText(n impl.Net) string {
	var s strings.Builder
	for _, b := range n.Blocks {
		s.WriteString(wantText(b))
	}
	for _, u := range n.Uses {
		fmt.Fprintf(&s, "use %s %s %d\n", u.Name, u.Block, u.Node)
	}
	for _, w := range n.Wires {
		fmt.Fprintf(&s, "wire %s.%s %s.%s\n", w.From.Use, w.From.Event, w.To.Use, w.To.Event)
	}
	for _, e := range n.Sources {
		fmt.Fprintf(&s, "source %s.%s\n", e.Use, e.Event)
	}
	for _, e := range n.Sinks {
		fmt.Fprintf(&s, "sink %s.%s\n", e.Use, e.Event)
	}
	return s.String()
}

// wayEnds is the events to which the ways of a net lead.
func wayEnds(n impl.Net) []impl.End {
	var out []impl.End
	for _, w := range n.Wires {
		out = append(out, w.To)
	}
	return append(out, n.Sources...)
}

func fits(vals []int, size int) bool {
	for _, num := range vals {
		if num < lowest || num > highest {
			return false
		}
	}
	return len(vals) == size
}

// wantOneOk is what the document asks of a net that is ok.
func wantOneOk(n impl.Net, o impl.One) bool {
	ends := wayEnds(n)
	if len(o.Insts) != len(n.Uses) || len(o.Ways) != len(ends) || len(o.Out) > impl.SaidMax {
		return false
	}
	for i, x := range o.Insts {
		b := wantBlock(n, n.Uses[i].Name)
		if x.State < 0 || x.State >= len(b.States) || !fits(x.Vals, len(wantNames(b))) {
			return false
		}
	}
	for i, w := range o.Ways {
		for _, vals := range w.List {
			if !fits(vals, inSize(n, ends[i])) {
				return false
			}
		}
	}
	for _, x := range o.Out {
		if x.Sink < 0 || x.Sink >= len(n.Sinks) || !fits(x.Vals, outSize(n, n.Sinks[x.Sink])) {
			return false
		}
	}
	return true
}

// wantNew is the net at first that the document asks for.
func wantNew(n impl.Net) impl.One {
	var o impl.One
	for _, u := range n.Uses {
		b := wantBlock(n, u.Name)
		x := impl.Inst{Vals: make([]int, len(wantNames(b))-len(b.Vars))}
		for _, v := range b.Vars {
			x.Vals = append(x.Vals, v.Num)
		}
		o.Insts = append(o.Insts, x)
	}
	o.Ways = make([]impl.Way, len(n.Wires)+len(n.Sources))
	return o
}

// wantDo is what the document asks for of a net that is ok, by names.
func wantDo(n impl.Net, o impl.One, d impl.Do) (impl.One, bool) {
	o = copyOf(o)
	if d.Kind == impl.DoPush {
		if d.At < 0 || d.At >= len(n.Sources) || !fits(d.Vals, inSize(n, n.Sources[d.At])) {
			return o, false
		}
		way := &o.Ways[len(n.Wires)+d.At]
		way.List = append(way.List, d.Vals)
		return o, true
	}
	if d.Kind != impl.DoTake || d.At < 0 || d.At >= len(o.Ways) || len(o.Ways[d.At].List) == 0 || len(d.Vals) > 0 {
		return o, false
	}
	vals := o.Ways[d.At].List[0]
	o.Ways[d.At].List = o.Ways[d.At].List[1:]
	to := wayEnds(n)[d.At]
	b := wantBlock(n, to.Use)
	inst, told := wantStep(b, o.Insts[useOf(n, to.Use)], portOf(b.Ins, to.Event), vals)
	o.Insts[useOf(n, to.Use)] = inst
	for _, x := range told {
		from := end(to.Use, b.Outs[x.Out].Name)
		for i, w := range n.Wires {
			if w.From == from {
				o.Ways[i].List = append(o.Ways[i].List, x.Vals)
			}
		}
		for i, e := range n.Sinks {
			if e == from && len(o.Out) < 200 {
				o.Out = append(o.Out, impl.Said{Sink: i, Vals: x.Vals})
			}
		}
	}
	return o, true
}

// someOne is any way a net can be.
func someOne(r *rand.Rand, n impl.Net) impl.One {
	var o impl.One
	for _, u := range n.Uses {
		o.Insts = append(o.Insts, someInst(r, wantBlock(n, u.Name)))
	}
	for _, e := range wayEnds(n) {
		var way impl.Way
		for range r.Intn(4) {
			way.List = append(way.List, some32s(r, inSize(n, e)))
		}
		o.Ways = append(o.Ways, way)
	}
	if len(n.Sinks) > 0 {
		for range []int{0, 1, 3, 198, 199, 200}[r.Intn(6)] {
			o.Out = append(o.Out, someSaid(r, n))
		}
	}
	return o
}

func someSaid(r *rand.Rand, n impl.Net) impl.Said {
	sink := r.Intn(len(n.Sinks))
	return impl.Said{Sink: sink, Vals: some32s(r, outSize(n, n.Sinks[sink]))}
}

// someDo is something that can mostly be done, or nearly.
func someDo(r *rand.Rand, n impl.Net) impl.Do {
	ways := len(n.Wires) + len(n.Sources)
	switch r.Intn(12) {
	case 0:
		return impl.Do{Kind: r.Intn(5) - 1, At: r.Intn(ways+3) - 1, Vals: someValues(r, r.Intn(4))}
	case 1, 2, 3, 4:
		if len(n.Sources) > 0 {
			at := r.Intn(len(n.Sources))
			return impl.Do{Kind: impl.DoPush, At: at, Vals: some32s(r, inSize(n, n.Sources[at]))}
		}
	}
	return impl.Do{Kind: impl.DoTake, At: r.Intn(ways + 1)}
}

func someDos(r *rand.Rand, n impl.Net, size int) []impl.Do {
	var out []impl.Do
	for range size {
		out = append(out, someDo(r, n))
	}
	return out
}

// handed is a thing as it is handed over, beside what it was.
type handed[T any] struct{ was, now T }

func hand[T any](x T) handed[T] {
	return handed[T]{copyOf(x), copyOf(x)}
}

// isUntouched says whether nothing was written into a thing, or behind its ends.
func (h handed[T]) isUntouched() bool {
	return same(h.was, h.now) && roomIsEmpty(h.now)
}
