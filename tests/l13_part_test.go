package tests

import (
	"fmt"
	"math/rand"
	"slices"
	"strings"
	"testing"

	"loop.example/telltale/impl"
)

// matters says whether a use is another one, or wires lead from it to that.
func matters(n impl.Net, from, to string) bool {
	return from == to || wiresLead(n, from, to, len(n.Uses))
}

// wantPartNeeds is the places that the document asks for.
func wantPartNeeds(n impl.Net, use int) []int {
	var out []int
	for at, u := range n.Uses {
		if matters(n, u.Name, n.Uses[use].Name) {
			out = append(out, at)
		}
	}
	return out
}

// wantPart is the part that the document asks for.
func wantPart(n impl.Net, use int) impl.Net {
	m := copyOf(n)
	goes := func(name string) bool { return !matters(n, name, n.Uses[use].Name) }
	m.Uses = slices.DeleteFunc(m.Uses, func(u impl.Use) bool { return goes(u.Name) })
	m.Wires = slices.DeleteFunc(m.Wires, func(w impl.Wire) bool { return goes(w.From.Use) || goes(w.To.Use) })
	m.Sources = slices.DeleteFunc(m.Sources, func(e impl.End) bool { return goes(e.Use) })
	m.Sinks = slices.DeleteFunc(m.Sinks, func(e impl.End) bool { return goes(e.Use) })
	return m
}

// wantPartDo is what the document asks to be done to a part.
func wantPartDo(n impl.Net, use int, list []impl.Do) []impl.Do {
	m := wantPart(n, use)
	var out []impl.Do
	for _, d := range list {
		at := -1
		switch {
		case d.Kind == impl.DoPush && d.At >= 0 && d.At < len(n.Sources):
			at = slices.Index(m.Sources, n.Sources[d.At])
		case d.Kind == impl.DoTake && d.At >= 0 && d.At < len(n.Wires):
			at = slices.Index(m.Wires, n.Wires[d.At])
		case d.Kind == impl.DoTake && d.At >= 0 && d.At < len(n.Wires)+len(n.Sources):
			if at = slices.Index(m.Sources, n.Sources[d.At-len(n.Wires)]); at >= 0 {
				at += len(m.Wires)
			}
		}
		if at >= 0 {
			out = append(out, impl.Do{Kind: d.Kind, At: at, Vals: d.Vals})
		}
	}
	return out
}

// withUses is a net whose uses have other names, by what each is turned into.
func withUses(n impl.Net, turn func(name string) string) impl.Net {
	m := copyOf(n)
	var names []*string
	for i := range m.Uses {
		names = append(names, &m.Uses[i].Name)
	}
	for i := range m.Wires {
		names = append(names, &m.Wires[i].From.Use, &m.Wires[i].To.Use)
	}
	for i := range m.Sources {
		names = append(names, &m.Sources[i].Use)
	}
	for i := range m.Sinks {
		names = append(names, &m.Sinks[i].Use)
	}
	for _, name := range names {
		*name = turn(*name)
	}
	return m
}

// wantNamed is the net that the document asks for, and whether there is one.
func wantNamed(n impl.Net, letter string) (impl.Net, bool) {
	m := withUses(n, func(name string) string { return letter + name })
	if len(letter) != 1 || wantNetCheck(m) != impl.NetFine {
		return impl.Net{}, false
	}
	return m, true
}

// wantBoth is both nets as the document asks for, and whether that is one.
func wantBoth(a, b impl.Net) (impl.Net, bool) {
	out := copyOf(a)
	for _, x := range b.Blocks {
		at := slices.IndexFunc(a.Blocks, func(y impl.Block) bool { return y.Name == x.Name })
		if at < 0 {
			out.Blocks = append(out.Blocks, copyOf(x))
		} else if !same(a.Blocks[at], x) {
			return impl.Net{}, false
		}
	}
	out.Uses = append(out.Uses, b.Uses...)
	out.Wires = append(out.Wires, b.Wires...)
	out.Sources = append(out.Sources, b.Sources...)
	out.Sinks = append(out.Sinks, b.Sinks...)
	if wantNetCheck(out) != impl.NetFine {
		return impl.Net{}, false
	}
	return out, true
}

// keepsPart asks for what the document asks for of a use, and that nothing is written or shared.
func keepsPart(t *testing.T, n impl.Net, use int, list []impl.Do) (impl.Net, []impl.Do) {
	t.Helper()
	hn, hl := hand(n), hand(list)
	needs, part, do := impl.PartNeeds(hn.now, use), impl.PartOf(hn.now, use), impl.PartDo(hn.now, use, hl.now)
	if !slices.Equal(needs, wantPartNeeds(n, use)) {
		t.Fatalf("%d needs %v, not %v\n%s", use, needs, wantPartNeeds(n, use), wantNetText(n))
	}
	if !same(part, wantPart(n, use)) {
		t.Fatalf("part of %d: %s, of %s", use, wantNetText(part), wantNetText(n))
	}
	if !same(do, wantPartDo(n, use, list)) {
		t.Fatalf("%d: %v, not %v, of %v\n%s", use, do, wantPartDo(n, use, list), list, wantNetText(n))
	}
	if !hn.isUntouched() || !hl.isUntouched() || !areApart(hn.now, hl.now, needs, part, do) {
		t.Fatal("an argument was written, or memory is shared")
	}
	return part, do
}

// keepsNamed asks for what the document asks for of a letter, and that nothing is written or shared.
func keepsNamed(t *testing.T, n impl.Net, letter string) (impl.Net, bool) {
	t.Helper()
	h := hand(n)
	got, ok := impl.PartName(h.now, letter)
	if want, wantOk := wantNamed(n, letter); ok != wantOk || !same(got, want) {
		t.Fatalf("%q: %v %s, not %v %s", letter, ok, wantNetText(got), wantOk, wantNetText(want))
	}
	if !h.isUntouched() || !areApart(h.now, got) {
		t.Fatal("an argument was written, or memory is shared")
	}
	return got, ok
}

// keepsBoth asks for what the document asks for of two nets, either first, and that nothing is written or shared.
func keepsBoth(t *testing.T, a, b impl.Net) (impl.Net, bool) {
	t.Helper()
	ha, hb := hand(a), hand(b)
	got, ok := impl.PartBoth(ha.now, hb.now)
	if want, wantOk := wantBoth(a, b); ok != wantOk || !same(got, want) {
		t.Fatalf("%v %s, not %v %s", ok, wantNetText(got), wantOk, wantNetText(want))
	}
	if !ha.isUntouched() || !hb.isUntouched() || !areApart(ha.now, hb.now, got) {
		t.Fatal("an argument was written, or memory is shared")
	}
	turned, turnedOk := impl.PartBoth(b, a)
	if want, wantOk := wantBoth(b, a); turnedOk != ok || turnedOk != wantOk || !same(turned, want) {
		t.Fatalf("the other way round: %v %s, not %v %s", turnedOk, wantNetText(turned), wantOk, wantNetText(want))
	}
	if len(turned.Uses) != len(got.Uses) || len(turned.Wires) != len(got.Wires) || len(turned.Blocks) != len(got.Blocks) {
		t.Fatalf("another size the other way round: %s, not %s", wantNetText(turned), wantNetText(got))
	}
	return got, ok
}

// hasNoPart asks for the one answer where a net has no such use.
func hasNoPart(t *testing.T, name string, n impl.Net, use int) {
	t.Helper()
	needs, part, do := impl.PartNeeds(n, use), impl.PartOf(n, use), impl.PartDo(n, use, []impl.Do{push(0), take(0)})
	if len(needs) > 0 || len(do) > 0 || !same(part, impl.Net{}) {
		t.Errorf("%s: use %d: %v %v %v", name, use, needs, do, part)
	}
}

// hasNoParts asks all functions for the one answer that a net has that is not ok. It was turned from one that is.
func hasNoParts(t *testing.T, name string, n, was impl.Net) {
	t.Helper()
	for use := -1; use <= impl.UseMax; use++ {
		hasNoPart(t, name, n, use)
	}
	if m, ok := impl.PartName(n, "z"); ok || !same(m, impl.Net{}) {
		t.Errorf("%s: named: %v", name, m)
	}
	least := mustNet("block least\nstate s\nuse least least 0\n")
	for _, pair := range [][2]impl.Net{{n, was}, {was, n}, {n, n}, {n, least}, {least, n}, {n, {}}, {{}, n}} {
		if m, ok := impl.PartBoth(pair[0], pair[1]); ok || !same(m, impl.Net{}) {
			t.Errorf("%s: both: %v", name, m)
		}
	}
}

// partNets is nets of all kinds, some with few wires, so that parts are of all sizes.
func partNets(r *rand.Rand, size int) []impl.Net {
	nets := wiredNets(r, size)
	for range size {
		n := someNet(r)
		n.Wires = n.Wires[:r.Intn(len(n.Wires)+1)]
		nets = append(nets, n)
	}
	return nets
}

// plentyDos is much that is done, some of it of no kind, or of a place that is none.
func plentyDos(r *rand.Rand, n impl.Net, size int) []impl.Do {
	list := someDos(r, n, size)
	for _, d := range []impl.Do{{}, {Kind: 3}, {Kind: -1, At: 1}, push(-1), push(len(n.Sources)), take(-1), take(len(n.Wires) + len(n.Sources)), take(1 << 40), push(-1 << 63)} {
		list = slices.Insert(list, r.Intn(len(list)+1), d)
	}
	return list
}

func TestP53WhatMattersByHand(t *testing.T) {
	gate := "block g\nin e\nin f\nout o\nout p\nstate s\non e t 1\nstate t\non - s 1\ntell o\n"
	uses := "use p g 0\nuse q g 1\nuse r g 2\nuse s g 0\nuse t g 1\n"
	cases := []struct {
		name, text string
		want       [][]int
	}{
		{"no wires", "", [][]int{{0}, {1}, {2}, {3}, {4}}},
		{"a wire", "wire p.o q.e\n", [][]int{{0}, {0, 1}, {2}, {3}, {4}}},
		{"a wire to an earlier place", "wire t.o p.e\n", [][]int{{0, 4}, {1}, {2}, {3}, {4}}},
		{"a chain of all", "wire p.o q.e\nwire q.o r.e\nwire r.o s.e\nwire s.o t.e\n", [][]int{{0}, {0, 1}, {0, 1, 2}, {0, 1, 2, 3}, {0, 1, 2, 3, 4}}},
		{"a chain of all, backwards", "wire t.o s.e\nwire s.o r.e\nwire r.o q.e\nwire q.o p.e\n", [][]int{{0, 1, 2, 3, 4}, {1, 2, 3, 4}, {2, 3, 4}, {3, 4}, {4}}},
		{"a chain, its last wire first", "wire r.o p.e\nwire s.o r.e\nwire q.o s.e\n", [][]int{{0, 1, 2, 3}, {1}, {1, 2, 3}, {1, 3}, {4}}},
		{"all to one", "wire p.o r.e\nwire q.o r.e\nwire s.o r.e\nwire t.o r.e\n", [][]int{{0}, {1}, {0, 1, 2, 3, 4}, {3}, {4}}},
		{"one to all", "wire r.o p.e\nwire r.o q.e\nwire r.o s.e\nwire r.o t.e\n", [][]int{{0, 2}, {1, 2}, {2}, {2, 3}, {2, 4}}},
		{"two ways to one block", "wire p.o q.e\nwire p.p r.e\nwire q.o s.e\nwire r.o s.f\n", [][]int{{0}, {0, 1}, {0, 2}, {0, 1, 2, 3}, {4}}},
		{"two wires between two", "wire p.o q.e\nwire p.o q.f\nwire q.p s.e\n", [][]int{{0}, {0, 1}, {2}, {0, 1, 3}, {4}}},
		{"two nets beside each other", "wire p.o r.e\nwire q.o s.e\nwire s.o t.f\n", [][]int{{0}, {1}, {0, 2}, {1, 3}, {1, 3, 4}}},
	}
	for _, c := range cases {
		n := mustNet(gate + uses + c.text + "source q.e\nsource p.f\nsource s.e\nsink t.p\nsink r.o\nsink p.o\n")
		for use, want := range c.want {
			if got := impl.PartNeeds(n, use); !slices.Equal(got, want) {
				t.Errorf("%s: %d needs %v, not %v", c.name, use, got, want)
			}
			keepsPart(t, n, use, nil)
		}
	}
	least := mustNet("block a\nstate b\nuse c a 2\n")
	if part, do := keepsPart(t, least, 0, []impl.Do{push(0), take(0)}); !same(part, least) || len(do) > 0 {
		t.Errorf("%s %v", wantNetText(part), do)
	}
}

func TestP53AsPromised(t *testing.T) {
	r := rand.New(rand.NewSource(53))
	sizes := map[int]int{}
	for _, n := range partNets(r, 120) {
		for use := range n.Uses {
			needs := impl.PartNeeds(n, use)
			if !slices.Contains(needs, use) || !slices.Equal(needs, wantPartNeeds(n, use)) {
				t.Fatalf("%d needs %v\n%s", use, needs, wantNetText(n))
			}
			for i, at := range needs {
				if i > 0 && needs[i-1] >= at {
					t.Fatalf("%v is not ascending", needs)
				}
				for _, other := range impl.PartNeeds(n, at) {
					if !slices.Contains(needs, other) {
						t.Fatalf("%d needs %d, and that %d\n%s", use, at, other, wantNetText(n))
					}
				}
			}
			sizes[len(needs)]++
		}
		for _, use := range []int{-1, len(n.Uses), len(n.Uses) + 1, 1 << 32, -1 << 63, 1<<63 - 1} {
			hasNoPart(t, "a use that is none", n, use)
		}
	}
	for size := 1; size <= impl.UseMax; size++ {
		if sizes[size] < 10 {
			t.Errorf("%d are needed only %d times", size, sizes[size])
		}
	}
}

// TestP54WhatIsDoneByHand has each place of a net, and where it is in the part of each use.
func TestP54WhatIsDoneByHand(t *testing.T) {
	n := starNet()
	all := []impl.Do{push(0, 1), push(1), push(2, 3, 4)}
	for way := range 10 {
		all = append(all, take(way))
	}
	wants := [][]impl.Do{
		{push(0, 1), push(1), take(0), take(1)},
		{push(0, 1), push(1), take(0), take(1), take(2), take(3)},
		{push(0, 1), push(1), take(0), take(1), take(2)},
		{push(0, 1), push(1), push(2, 3, 4), take(0), take(1), take(2), take(3), take(4), take(5), take(6), take(7)},
		all,
	}
	for use, want := range wants {
		if _, do := keepsPart(t, n, use, all); !same(do, want) {
			t.Errorf("%d: %v, not %v", use, do, want)
		}
	}
	// The one wire of the part is the fourth of the net, its one source the last one, and what could not be done stays.
	n.Wires = []impl.Wire{wire("u1", "o", "u2", "e"), wire("u2", "o", "u5", "e"), wire("u1", "p", "u2", "f"), wire("u3", "p", "u4", "e")}
	n.Sources = []impl.End{end("u1", "e"), end("u2", "f"), end("u3", "f")}
	list := []impl.Do{take(6), push(2, 1, 2, 3, 4, highest+1), take(3), take(0), take(5), {Kind: impl.DoTake, At: 3, Vals: []int{7}}, push(1), push(0), {Kind: impl.DoTake, At: 6, Vals: []int{}}, take(7), push(3), {Kind: 3, At: 3}, {At: 3}, {Kind: -2, At: 6}, take(-1), push(-1)}
	want := []impl.Do{take(1), push(0, 1, 2, 3, 4, highest+1), take(0), {Kind: impl.DoTake, At: 0, Vals: []int{7}}, take(1)}
	if part, do := keepsPart(t, n, 3, list); !same(do, want) || !same(part.Wires, n.Wires[3:]) || !same(part.Sources, n.Sources[2:]) {
		t.Errorf("%v, not %v", do, want)
	}
	for _, list := range [][]impl.Do{nil, {}} {
		if _, do := keepsPart(t, n, 3, list); len(do) > 0 {
			t.Errorf("%v", do)
		}
	}
	// More than can be done in one place is still told.
	if _, do := keepsPart(t, n, 3, slices.Repeat([]impl.Do{push(0), take(3)}, impl.RunMax)); len(do) != impl.RunMax {
		t.Errorf("%d are left", len(do))
	}
}

// TestP54TheSameInAPart does much to a net, and what is left of it to the part of each use.
func TestP54TheSameInAPart(t *testing.T) {
	r := rand.New(rand.NewSource(54))
	less, moved, dropped := 0, 0, 0
	for _, n := range partNets(r, 120) {
		list := plentyDos(r, n, 20+r.Intn(60))
		one := impl.OneRun(n, list)
		for use := range n.Uses {
			part, do := keepsPart(t, n, use, list)
			partOne := impl.OneRun(part, do)
			for place, at := range impl.PartNeeds(n, use) {
				if !same(partOne.Insts[place], one.Insts[at]) {
					t.Fatalf("%d in the part of %d: %v, not %v\n%v\n%s", at, use, partOne.Insts[place], one.Insts[at], list, wantNetText(n))
				}
				moved += bit(!same(one.Insts[at], wantNew(n).Insts[at]))
			}
			less += bit(len(part.Uses) < len(n.Uses))
			dropped += len(list) - len(do)
		}
	}
	if less < 200 || moved < 500 || dropped < 5000 {
		t.Errorf("%d parts are less, %d moved, %d dropped", less, moved, dropped)
	}
}

func TestP55PartsByHand(t *testing.T) {
	kinds := countText + passText
	cases := []struct {
		use  int
		want string
	}{
		{0, kinds + "use p count 0\nsource p.tick\n"},
		{1, kinds + "use p count 0\nuse q pass 1\nwire p.up q.val\nsource p.tick\nsource q.two\n"},
		{2, kinds + "use p count 0\nuse q pass 1\nuse r pass 2\nwire p.up q.val\nwire q.low r.val\nwire q.high r.val\nsource p.tick\nsource q.two\nsink r.low\n"},
		{3, chainText},
	}
	n := mustNet(chainText)
	for _, c := range cases {
		if part, _ := keepsPart(t, n, c.use, nil); wantNetText(part) != c.want {
			t.Errorf("%d: %s", c.use, wantNetText(part))
		}
	}
	// A part without any ends, and with a node that is not that of its place.
	n.Sources, n.Sinks = []impl.End{end("q", "two")}, nil
	if part, _ := keepsPart(t, n, 0, nil); wantNetText(part) != kinds+"use p count 0\n" || impl.NetCheck(part) != impl.NetFine {
		t.Errorf("%s", wantNetText(part))
	}
	// All kinds stay, also such as nothing is of any more.
	star := starNet()
	if part, _ := keepsPart(t, star, 0, nil); !same(part.Blocks, star.Blocks) || len(part.Uses) != 1 || !same(part.Sinks, []impl.End{end("u1", "o")}) {
		t.Errorf("%s", wantNetText(part))
	}
}

func TestP55PartsAreTheirOwnParts(t *testing.T) {
	t.Parallel()
	r := rand.New(rand.NewSource(55))
	whole, single, lower := 0, 0, 0
	for _, n := range partNets(r, 150) {
		for use := range n.Uses {
			part, _ := keepsPart(t, n, use, someDos(r, n, 10))
			place := slices.Index(impl.PartNeeds(n, use), use)
			if impl.NetCheck(part) != impl.NetFine || !same(impl.PartOf(part, place), part) || impl.CostDeep(part) > impl.CostDeep(n) {
				t.Fatalf("part of %d: %s, of %s", use, wantNetText(part), wantNetText(n))
			}
			whole += bit(same(part, n))
			single += bit(len(part.Uses) == 1 && len(n.Uses) > 1)
			lower += bit(impl.CostDeep(part) < impl.CostDeep(n))
			list := someDos(r, part, 10)
			if do := impl.PartDo(part, place, list); !same(do, wantPartDo(part, place, list)) {
				t.Fatalf("%v, not %v", do, list)
			}
		}
	}
	if whole < 30 || single < 50 || lower < 50 {
		t.Errorf("%d are all of a net, %d are one block, %d are less deep", whole, single, lower)
	}
}

func TestP56NamesByHand(t *testing.T) {
	n := mustNet("block p\nin p p\nout p q\nstate p\non p p p\ntell p\nuse p p 0\nuse q p 1\nwire p.p q.p\nsource p.p\nsink q.p\nsink p.p\n")
	want := "block p\nin p p\nout p q\nstate p\non p p p\ntell p\nuse pp p 0\nuse pq p 1\nwire pp.p pq.p\nsource pp.p\nsink pq.p\nsink pp.p\n"
	if m, ok := keepsNamed(t, n, "p"); !ok || wantNetText(m) != want {
		t.Errorf("%v %s", ok, wantNetText(m))
	}
	for _, n := range []impl.Net{n, mustNet(chainText), starNet(), mustNet("block a\nstate b\nuse c a 0\n")} {
		for c := range 256 {
			letter := string([]byte{byte(c)})
			if _, ok := keepsNamed(t, n, letter); ok != (c >= 'a' && c <= 'z') {
				t.Errorf("%q: %v", letter, ok)
			}
		}
		for _, letter := range []string{"", "ab", "aa", "\u00e9", "a ", " a", "a\x00", "zzzzzz", strings.Repeat("a", 5000)} {
			if m, ok := keepsNamed(t, n, letter); ok || !same(m, impl.Net{}) {
				t.Errorf("%q: %v %s", letter, ok, wantNetText(m))
			}
		}
	}
}

// TestP56LongNames has names of each length, of each of five uses alone.
func TestP56LongNames(t *testing.T) {
	for use := range impl.UseMax {
		for size := 1; size <= impl.NameMax; size++ {
			n := withUses(starNet(), func(name string) string {
				if name == fmt.Sprint("u", use+1) {
					return strings.Repeat("k", size)
				}
				return name
			})
			m, ok := keepsNamed(t, n, "z")
			if ok != (size < impl.NameMax) || ok && (m.Uses[use].Name != "z"+n.Uses[use].Name || len(m.Uses[use].Name) != size+1) {
				t.Errorf("%d bytes of use %d: %v", size, use, ok)
			}
			if !ok && !same(m, impl.Net{}) {
				t.Errorf("%s", wantNetText(m))
			}
		}
	}
	n := mustNet("block a\nstate b\nuse c a 0\n")
	for size := 1; size <= 8; size++ {
		m, ok := n, true
		for range size {
			m, ok = impl.PartName(m, "k")
		}
		if ok != (size < impl.NameMax) {
			t.Errorf("%d letters: %v", size, ok)
		}
	}
}

func TestP56NamesDoNotMatter(t *testing.T) {
	r := rand.New(rand.NewSource(56))
	named, long := 0, 0
	for _, n := range partNets(r, 120) {
		letter := string(rune('a' + r.Intn(26)))
		m, ok := keepsNamed(t, n, letter)
		if !ok {
			long++
			continue
		}
		list := plentyDos(r, n, r.Intn(60))
		if !same(impl.OneRun(m, list), impl.OneRun(n, list)) || !same(m.Blocks, n.Blocks) {
			t.Fatalf("%q: another one\n%s", letter, wantNetText(n))
		}
		for i, u := range m.Uses {
			if u.Name != letter+n.Uses[i].Name || u.Block != n.Uses[i].Block || u.Node != n.Uses[i].Node {
				t.Fatalf("%q: %v, not of %v", letter, u, n.Uses[i])
			}
		}
		named++
	}
	if named < 50 || long < 50 {
		t.Errorf("%d were named, %d have long names", named, long)
	}
}

// numbered is a net whose uses are named by a letter and their places.
func numbered(n impl.Net, letter string) impl.Net {
	return withUses(n, func(name string) string { return fmt.Sprint(letter, useOf(n, name)) })
}

// anotherBlock is a block of the same name that is another one: it has one state more, or two of its last ones in another order.
func anotherBlock(b impl.Block) impl.Block {
	b = copyOf(b)
	if len(b.States) < impl.StateMax {
		b.States = append(b.States, impl.State{Name: "added"})
	} else {
		b.States[3], b.States[4] = b.States[4], b.States[3]
	}
	return b
}

// somePair is two nets that often can stand beside each other, and the kinds of which are often the same.
func somePair(r *rand.Rand, nets []impl.Net) (impl.Net, impl.Net) {
	a := nets[r.Intn(len(nets))]
	b := a
	if r.Intn(2) == 0 {
		b = nets[r.Intn(len(nets))]
	}
	a, b = numbered(wantPart(a, r.Intn(len(a.Uses))), "a"), numbered(wantPart(b, r.Intn(len(b.Uses))), []string{"b", "b", "b", "a"}[r.Intn(4)])
	if r.Intn(2) == 0 {
		b.Uses, b.Wires, b.Sources, b.Sinks = b.Uses[:1], nil, nil, nil
	}
	for i := range b.Blocks {
		switch name := b.Blocks[i].Name; r.Intn(12) {
		case 0:
			b.Blocks[i] = anotherBlock(b.Blocks[i])
		case 1, 2:
			b.Blocks[i].Name = fmt.Sprint("k", i)
			for j := range b.Uses {
				if b.Uses[j].Block == name {
					b.Uses[j].Block = b.Blocks[i].Name
				}
			}
		case 3:
			if len(b.Blocks) > 1 && !slices.ContainsFunc(b.Uses, func(u impl.Use) bool { return u.Block == name }) {
				b.Blocks = slices.Delete(slices.Clone(b.Blocks), i, i+1)
				return a, b
			}
		}
	}
	return a, b
}

// beside is what is done to the first of two nets, as it is done to both.
func beside(a, b impl.Net, list []impl.Do) []impl.Do {
	var out []impl.Do
	for _, d := range list {
		if d.Kind == impl.DoPush && d.At >= len(a.Sources) || d.Kind == impl.DoTake && d.At >= len(wayEnds(a)) {
			continue
		}
		if d.Kind == impl.DoTake && d.At >= len(a.Wires) {
			d.At += len(b.Wires)
		}
		out = append(out, d)
	}
	return out
}

func TestP57TwoNetsBesideEachOther(t *testing.T) {
	t.Parallel()
	r := rand.New(rand.NewSource(57))
	nets := partNets(r, 100)
	beyond, moved, shared := 0, 0, 0
	for range 1500 {
		a, b := somePair(r, nets)
		both, ok := keepsBoth(t, a, b)
		if !ok {
			continue
		}
		beyond++
		shared += bit(len(both.Blocks) < len(a.Blocks)+len(b.Blocks))
		list := plentyDos(r, a, r.Intn(50))
		one, two := impl.OneRun(a, list), impl.OneRun(both, beside(a, b, list))
		if !same(two.Insts, slices.Concat(one.Insts, impl.OneNew(b).Insts)) || !same(two.Out, one.Out) {
			t.Fatalf("%v, not %v\n%v\n%s", two, one, list, wantNetText(both))
		}
		moved += bit(!same(one.Insts, impl.OneNew(a).Insts))
	}
	if beyond < 300 || moved < 100 || shared < 200 {
		t.Errorf("%d beside each other, %d moved, %d have kinds that both have", beyond, moved, shared)
	}
}

func TestP57BothByHand(t *testing.T) {
	a := mustNet(countText + passText + "use p count 0\nuse q pass 1\nwire p.up q.val\nsource p.tick\nsink q.low\n")
	b := mustNet("block least\nstate s\n" + passText + "block more\nstate s\nuse r pass 2\nuse s least 1\nuse t pass 2\nwire r.low t.val\nsource t.two\nsource r.val\nsink r.low\nsink t.both\n")
	want := countText + passText + "block least\nstate s\nblock more\nstate s\nuse p count 0\nuse q pass 1\nuse r pass 2\nuse s least 1\nuse t pass 2\nwire p.up q.val\nwire r.low t.val\nsource p.tick\nsource t.two\nsource r.val\nsink q.low\nsink r.low\nsink t.both\n"
	if both, ok := keepsBoth(t, a, b); !ok || wantNetText(both) != want {
		t.Errorf("%v %s", ok, wantNetText(both))
	}
	want = "block least\nstate s\n" + passText + "block more\nstate s\n" + countText + "use r pass 2\nuse s least 1\nuse t pass 2\nuse p count 0\nuse q pass 1\nwire r.low t.val\nwire p.up q.val\nsource t.two\nsource r.val\nsource p.tick\nsink r.low\nsink t.both\nsink q.low\n"
	if both, ok := keepsBoth(t, b, a); !ok || wantNetText(both) != want {
		t.Errorf("%v %s", ok, wantNetText(both))
	}
	for _, n := range []impl.Net{a, b} {
		if both, ok := keepsBoth(t, n, n); ok {
			t.Errorf("beside itself: %s", wantNetText(both))
		}
	}
}

// TestP58KindsThatBothHave turns one thing of a kind that both have, in one of them alone.
func TestP58KindsThatBothHave(t *testing.T) {
	turns := []struct {
		name string
		turn func(b *impl.Block)
		want bool
	}{
		{"the same", func(b *impl.Block) {}, true},
		{"empty lists for none", func(b *impl.Block) {
			b.Ins[1].Vals, b.Outs[1].Vals, b.States[3].Acts, b.States[3].Moves = []string{}, []string{}, []impl.Act{}, []impl.Move{}
		}, true},
		{"an event that comes", func(b *impl.Block) { b.Ins = append(b.Ins, impl.Port{Name: "more"}) }, false},
		{"the order of events", func(b *impl.Block) { slices.Reverse(b.Outs) }, false},
		{"a value that comes", func(b *impl.Block) { b.Ins[1].Vals = []string{"k"} }, false},
		{"the order of values", func(b *impl.Block) { slices.Reverse(b.Outs[0].Vals) }, false},
		{"a value of its own", func(b *impl.Block) { b.Vars[0].Num++ }, false},
		{"a state more", func(b *impl.Block) { b.States = append(b.States, impl.State{Name: "more"}) }, false},
		{"the order of states", func(b *impl.Block) { slices.Reverse(b.States) }, false},
		{"the name of a state", func(b *impl.Block) { b.States[3].Name, b.States[0].Moves[2].To = "closed", "closed" }, false},
		{"an event of a move", func(b *impl.Block) { b.States[0].Moves[2].Event = "" }, false},
		{"a when", func(b *impl.Block) { b.States[0].Moves[2].When = "2" }, false},
		{"to where a move leads", func(b *impl.Block) { b.States[0].Moves[2].To = "open" }, false},
		{"the order of moves", func(b *impl.Block) { slices.Reverse(b.States[0].Moves) }, false},
		{"a sum", func(b *impl.Block) { b.States[1].Acts[0].Sum = "2*x" }, false},
		{"what is told", func(b *impl.Block) { b.States[1].Acts[1].Name = "drop" }, false},
		{"an act less", func(b *impl.Block) { b.States[1].Acts = b.States[1].Acts[:3] }, false},
		{"the order of acts", func(b *impl.Block) { slices.Reverse(b.States[1].Acts) }, false},
		{"another name", func(b *impl.Block) { b.Name = "other" }, true},
	}
	for _, c := range turns {
		a := mustNet(countText + gateText + "use p gate 0\n")
		b := mustNet(gateText + countText + "use q count 0\n")
		c.turn(&b.Blocks[0])
		if wantNetCheck(b) != impl.NetFine {
			t.Fatalf("%s: the net is not ok", c.name)
		}
		if both, ok := keepsBoth(t, a, b); ok != c.want {
			t.Errorf("%s: %v %s", c.name, ok, wantNetText(both))
		}
	}
}

// kindsOf is so many kinds of blocks, from a number on, that differ by their names alone.
func kindsOf(from, size int) string {
	text := ""
	for i := range size {
		text += fmt.Sprintf("block k%d\nin e\nin f\nin g\nout o\nout p\nout q\nstate s\n", from+i)
	}
	return text
}

// sizedPart is a net of so many kinds, uses, wires, sources and sinks, the kinds of which begin at a number.
func sizedPart(letter string, from, kinds, uses, wires, sources, sinks int) impl.Net {
	text := kindsOf(from, kinds)
	for i := range uses {
		text += fmt.Sprintf("use %s%d k%d %d\n", letter, i, from+i%kinds, i%3)
	}
	for i := range wires {
		text += fmt.Sprintf("wire %s0.%c %s1.%c\n", letter, "opq"[i%3], letter, "efg"[i/3])
	}
	for i := range sources {
		text += fmt.Sprintf("source %s0.%c\n", letter, "efg"[i])
	}
	for i := range sinks {
		text += fmt.Sprintf("sink %s0.%c\n", letter, "opq"[i])
	}
	return mustNet(text)
}

// TestP58LimitsThatBothMeet has two nets that meet each limit just together, and such as are one more.
func TestP58LimitsThatBothMeet(t *testing.T) {
	cases := []struct {
		name string
		a, b impl.Net
		want bool
	}{
		{"five uses", sizedPart("a", 0, 1, 2, 0, 0, 0), sizedPart("b", 0, 1, 3, 0, 0, 0), true},
		{"six uses", sizedPart("a", 0, 1, 3, 0, 0, 0), sizedPart("b", 0, 1, 3, 0, 0, 0), false},
		{"six uses, one in the second", sizedPart("a", 0, 1, 5, 0, 0, 0), sizedPart("b", 0, 1, 1, 0, 0, 0), false},
		{"seven wires", sizedPart("a", 0, 1, 2, 3, 0, 0), sizedPart("b", 0, 1, 2, 4, 0, 0), true},
		{"eight wires", sizedPart("a", 0, 1, 2, 4, 0, 0), sizedPart("b", 0, 1, 2, 4, 0, 0), false},
		{"seven wires in one", sizedPart("a", 0, 1, 2, 7, 0, 0), sizedPart("b", 0, 1, 2, 0, 0, 0), true},
		{"seven wires in one, one in the other", sizedPart("a", 0, 1, 2, 7, 0, 0), sizedPart("b", 0, 1, 2, 1, 0, 0), false},
		{"four kinds", sizedPart("a", 0, 2, 2, 0, 0, 0), sizedPart("b", 2, 2, 2, 0, 0, 0), true},
		{"five kinds", sizedPart("a", 0, 3, 2, 0, 0, 0), sizedPart("b", 3, 2, 2, 0, 0, 0), false},
		{"four kinds, two of both", sizedPart("a", 0, 3, 2, 0, 0, 0), sizedPart("b", 1, 3, 3, 0, 0, 0), true},
		{"five kinds, one of both", sizedPart("a", 0, 3, 2, 0, 0, 0), sizedPart("b", 2, 3, 3, 0, 0, 0), false},
		{"four kinds, all of both", sizedPart("a", 0, 4, 2, 0, 0, 0), sizedPart("b", 0, 4, 3, 0, 0, 0), true},
		{"four kinds in one, one more in the other", sizedPart("a", 0, 4, 2, 0, 0, 0), sizedPart("b", 4, 1, 2, 0, 0, 0), false},
		{"three sources", sizedPart("a", 0, 1, 1, 0, 1, 0), sizedPart("b", 0, 1, 1, 0, 2, 0), true},
		{"four sources", sizedPart("a", 0, 1, 1, 0, 2, 0), sizedPart("b", 0, 1, 1, 0, 2, 0), false},
		{"four sources, three in one", sizedPart("a", 0, 1, 1, 0, 3, 0), sizedPart("b", 0, 1, 1, 0, 1, 0), false},
		{"three sinks", sizedPart("a", 0, 1, 1, 0, 0, 2), sizedPart("b", 0, 1, 1, 0, 0, 1), true},
		{"four sinks", sizedPart("a", 0, 1, 1, 0, 0, 2), sizedPart("b", 0, 1, 1, 0, 0, 2), false},
		{"four sinks, three in one", sizedPart("a", 0, 1, 1, 0, 0, 3), sizedPart("b", 0, 1, 1, 0, 0, 1), false},
		{"all just met", sizedPart("a", 0, 2, 2, 4, 2, 1), sizedPart("b", 2, 2, 3, 3, 1, 2), true},
		{"a use of one name", sizedPart("a", 0, 1, 1, 0, 0, 0), sizedPart("a", 0, 1, 1, 0, 0, 0), false},
		{"a use of one name, of two kinds", sizedPart("a", 0, 1, 2, 0, 0, 0), sizedPart("a", 1, 1, 1, 0, 0, 0), false},
	}
	for _, c := range cases {
		both, ok := keepsBoth(t, c.a, c.b)
		if ok != c.want || ok && impl.NetCheck(both) != impl.NetFine || !ok && !same(both, impl.Net{}) {
			t.Errorf("%s: %v %s", c.name, ok, wantNetText(both))
		}
	}
	all, _ := impl.PartBoth(cases[19].a, cases[19].b)
	if len(all.Blocks) != impl.BlockMax || len(all.Uses) != impl.UseMax || len(all.Wires) != impl.WireMax || len(all.Sources) != impl.EndMax || len(all.Sinks) != impl.EndMax {
		t.Errorf("not all is met: %s", wantNetText(all))
	}
}

func TestP58EitherFirst(t *testing.T) {
	r := rand.New(rand.NewSource(58))
	nets := partNets(r, 100)
	seen := map[bool]int{}
	for range 1200 {
		a, b := somePair(r, nets)
		_, ok := keepsBoth(t, a, b)
		seen[ok]++
	}
	if seen[true] < 200 || seen[false] < 200 {
		t.Error(seen)
	}
}

func TestP53To58NetsThatAreNotOk(t *testing.T) {
	star := starNet()
	hasNoParts(t, "nothing", impl.Net{}, star)
	hasNoParts(t, "no uses", impl.Net{Blocks: star.Blocks}, star)
	for i, turn := range []func(n *impl.Net){
		func(n *impl.Net) { n.Blocks[3].States = nil },
		func(n *impl.Net) { n.Uses[0].Node = -1 },
		func(n *impl.Net) { n.Uses[4].Name = "u1" },
		func(n *impl.Net) { n.Wires[0].From.Use = "none" },
		func(n *impl.Net) { n.Sinks[2].Event = "e" },
		func(n *impl.Net) { n.Sources[1] = n.Sources[0] },
		func(n *impl.Net) { n.Wires[2] = wire("u5", "p", "u1", "f") },
	} {
		n := starNet()
		turn(&n)
		if wantNetCheck(n) == impl.NetFine {
			t.Fatalf("turn %d: the net is ok", i)
		}
		hasNoParts(t, fmt.Sprint("turn ", i), n, star)
	}
	// Two nets that are not ok do not come to one that is.
	a, b := mustNet(chainText), mustNet(chainText)
	a.Uses, a.Wires, a.Sources, a.Sinks = nil, nil, nil, nil
	if both, ok := impl.PartBoth(a, b); ok || !same(both, impl.Net{}) {
		t.Errorf("%s", wantNetText(both))
	}
	if both, ok := impl.PartBoth(b, a); ok || !same(both, impl.Net{}) {
		t.Errorf("%s", wantNetText(both))
	}
}
