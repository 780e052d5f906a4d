package tests

import (
	"math/rand"
	"slices"
	"testing"

	"loop.example/telltale/impl"
)

func push(at int, vals ...int) impl.Do { return impl.Do{Kind: impl.DoPush, At: at, Vals: vals} }

func take(at int) impl.Do { return impl.Do{Kind: impl.DoTake, At: at} }

func said(sink int, vals ...int) impl.Said { return impl.Said{Sink: sink, Vals: vals} }

func way(list ...[]int) impl.Way { return impl.Way{List: list} }

// lists is lists of one value each.
func lists(nums ...int) [][]int {
	var out [][]int
	for _, num := range nums {
		out = append(out, []int{num})
	}
	return out
}

// doneAll does what can be done, one by one.
func doneAll(n impl.Net, o impl.One, list []impl.Do) impl.One {
	for _, d := range list {
		o, _ = impl.OneDo(n, o, d)
	}
	return o
}

// keepsOneDo asks OneDo for what the document asks for, and that nothing is written or shared.
func keepsOneDo(t *testing.T, n impl.Net, o impl.One, d impl.Do) (impl.One, bool) {
	t.Helper()
	hn, ho, hd := hand(n), hand(o), hand(d)
	got, ok := impl.OneDo(hn.now, ho.now, hd.now)
	want, wantOk := wantDo(n, o, d)
	if ok != wantOk || !same(got, want) {
		t.Fatalf("%v: %v %v, not %v %v, from %v\n%s", d, ok, got, wantOk, want, o, wantNetText(n))
	}
	if !hn.isUntouched() || !ho.isUntouched() || !hd.isUntouched() {
		t.Fatalf("%v: an argument was written", d)
	}
	if !areApart(hn.now, ho.now, hd.now, got) {
		t.Fatalf("%v: memory is shared", d)
	}
	return got, ok
}

func TestP19NewNets(t *testing.T) {
	want := impl.One{
		Insts: []impl.Inst{inst(0, 0, 0), inst(0, 0, 0, 0, 0), inst(0, 0, 0, 0, 0), inst(0, 0, 0, 0, 0)},
		Ways:  make([]impl.Way, 6),
	}
	if o := impl.OneNew(mustNet(chainText)); !same(o, want) {
		t.Errorf("%v, not %v", o, want)
	}
	least := mustNet("block a\nvar x -7\nstate b\nuse c a 0\nuse d a 1\n")
	if o := impl.OneNew(least); !same(o, impl.One{Insts: []impl.Inst{inst(0, -7), inst(0, -7)}}) || !impl.OneOk(least, o) {
		t.Errorf("%v", o)
	}
	if o := impl.OneNew(impl.Net{}); !same(o, impl.One{}) || impl.OneOk(impl.Net{}, o) {
		t.Errorf("nothing: %v", o)
	}
}

func TestP19NewNetsAsPromised(t *testing.T) {
	r := rand.New(rand.NewSource(19))
	for range 1000 {
		n := someNet(r)
		h := hand(n)
		o := impl.OneNew(h.now)
		if !same(o, wantNew(n)) || !impl.OneOk(n, o) || len(o.Out) > 0 {
			t.Fatalf("%v, not %v", o, wantNew(n))
		}
		for _, w := range o.Ways {
			if len(w.List) > 0 {
				t.Fatalf("not empty: %v", o)
			}
		}
		for i, u := range n.Uses {
			if !same(o.Insts[i], impl.InstNew(wantBlock(n, u.Name))) {
				t.Fatalf("%s: %v", u.Name, o.Insts[i])
			}
		}
		for node := -1; node < impl.NodesMax; node++ {
			if !same(impl.OneNew(impl.NetMove(n, node)), o) {
				t.Fatalf("another one on node %d", node)
			}
		}
		if !h.isUntouched() || !areApart(h.now, o) {
			t.Fatal("an argument was written, or memory is shared")
		}
	}
}

// fullOne is a net with something on all ways, and told outside.
func fullOne() (impl.Net, impl.One) {
	n := mustNet(chainText)
	return n, impl.One{
		Insts: []impl.Inst{inst(1, 2, 3), inst(0, 4, 5, 6, 7), inst(2, lowest, highest, 0, 1), inst(0, 0, 0, 0, 0)},
		Ways:  []impl.Way{way(lists(1, highest, lowest)...), way(), way(lists(4)...), way(lists(5, 6)...), way([]int{}, nil), way([]int{1, 2}, []int{lowest, highest})},
		Out:   []impl.Said{said(0, 9), said(1, highest), said(0, lowest)},
	}
}

func TestP20WhatANetCanBe(t *testing.T) {
	n, o := fullOne()
	cases := []struct {
		name string
		turn func(o *impl.One)
		want bool
	}{
		{"as it is", func(o *impl.One) {}, true},
		{"nothing", func(o *impl.One) { *o = impl.One{} }, false},
		{"no insts", func(o *impl.One) { o.Insts = nil }, false},
		{"one inst less", func(o *impl.One) { o.Insts = o.Insts[:3] }, false},
		{"one inst more", func(o *impl.One) { o.Insts = append(o.Insts, o.Insts[3]) }, false},
		{"insts in another order", func(o *impl.One) { slices.Reverse(o.Insts) }, false},
		{"an inst in no state", func(o *impl.One) { o.Insts[0].State = 2 }, false},
		{"the last inst in no state", func(o *impl.One) { o.Insts[3].State = -1 }, false},
		{"a state of another kind", func(o *impl.One) { o.Insts[1].State = 2 }, true},
		{"a value of an inst more", func(o *impl.One) { o.Insts[3].Vals = append(o.Insts[3].Vals, 0) }, false},
		{"a value of an inst less", func(o *impl.One) { o.Insts[2].Vals = o.Insts[2].Vals[:3] }, false},
		{"a value of an inst too great", func(o *impl.One) { o.Insts[2].Vals[1] = highest + 1 }, false},
		{"no ways", func(o *impl.One) { o.Ways = nil }, false},
		{"one way less", func(o *impl.One) { o.Ways = o.Ways[:5] }, false},
		{"one way more", func(o *impl.One) { o.Ways = append(o.Ways, impl.Way{}) }, false},
		{"ways empty", func(o *impl.One) { o.Ways = make([]impl.Way, 6) }, true},
		{"a way with too few values", func(o *impl.One) { o.Ways[0].List[2] = nil }, false},
		{"a way with too many values", func(o *impl.One) { o.Ways[3].List[1] = []int{1, 2} }, false},
		{"a source with too few values", func(o *impl.One) { o.Ways[5].List[1] = []int{1} }, false},
		{"a source with too many values", func(o *impl.One) { o.Ways[4].List[0] = []int{0} }, false},
		{"a way with a value too great", func(o *impl.One) { o.Ways[0].List[1][0] = highest + 1 }, false},
		{"a source with a value too small", func(o *impl.One) { o.Ways[5].List[0][1] = lowest - 1 }, false},
		{"a way with very much on it", func(o *impl.One) { o.Ways[1].List = lists(make([]int, 10000)...) }, true},
		{"nothing told", func(o *impl.One) { o.Out = nil }, true},
		{"told by no sink", func(o *impl.One) { o.Out[2].Sink = 2 }, false},
		{"told by sink -1", func(o *impl.One) { o.Out[0].Sink = -1 }, false},
		{"told without values", func(o *impl.One) { o.Out[1].Vals = nil }, false},
		{"told with too many values", func(o *impl.One) { o.Out[1].Vals = []int{1, 2} }, false},
		{"told with a value too great", func(o *impl.One) { o.Out[1].Vals[0] = highest + 1 }, false},
		{"told with a value too small", func(o *impl.One) { o.Out[2].Vals[0] = lowest - 1 }, false},
		{"200 told", func(o *impl.One) { o.Out = slices.Repeat([]impl.Said{said(1, 1)}, 200) }, true},
		{"201 told", func(o *impl.One) { o.Out = slices.Repeat([]impl.Said{said(1, 1)}, 201) }, false},
	}
	for _, c := range cases {
		p := copyOf(o)
		c.turn(&p)
		h := hand(p)
		if got := impl.OneOk(n, h.now); got != c.want || got != wantOneOk(n, p) || !h.isUntouched() {
			t.Errorf("%s: %v, not %v", c.name, got, c.want)
		}
		for _, d := range []impl.Do{push(0), take(0), take(1), {}} {
			if c.want {
				keepsOneDo(t, n, p, d)
			} else if got, ok := impl.OneDo(n, p, d); ok || !same(got, impl.One{}) {
				t.Errorf("%s: %v: %v %v", c.name, d, ok, got)
			}
		}
	}
}

// wrongOne changes one thing of how a net is, mostly for the worse.
func wrongOne(r *rand.Rand, o *impl.One) {
	var all []*[]int
	for i := range o.Insts {
		all = append(all, &o.Insts[i].Vals)
	}
	for i := range o.Ways {
		for j := range o.Ways[i].List {
			all = append(all, &o.Ways[i].List[j])
		}
	}
	for i := range o.Out {
		all = append(all, &o.Out[i].Vals)
	}
	vals := all[r.Intn(len(all))]
	switch r.Intn(7) {
	case 0:
		*vals = append(*vals, 0)
	case 1:
		*vals = someValues(r, len(*vals))
	case 2:
		*vals = (*vals)[:len(*vals)/2]
	case 3:
		o.Insts[r.Intn(len(o.Insts))].State = r.Intn(7) - 1
	case 4:
		o.Insts = o.Insts[:len(o.Insts)-r.Intn(2)]
	case 5:
		o.Ways = append(o.Ways, make([]impl.Way, r.Intn(2))...)
	case 6:
		o.Out = append(o.Out, said(r.Intn(5)-1, make([]int, r.Intn(3))...))
	}
}

func TestP20NetsThatCannotBeSo(t *testing.T) {
	r := rand.New(rand.NewSource(20))
	seen := map[bool]int{}
	for range 3000 {
		n := someNet(r)
		o := someOne(r, n)
		wrongOne(r, &o)
		want := wantOneOk(n, o)
		seen[want]++
		if got := impl.OneOk(n, o); got != want {
			t.Fatalf("%v, not %v: %v\n%s", got, want, o, wantNetText(n))
		}
		if p, ok := impl.OneDo(n, o, someDo(r, n)); !want && (ok || !same(p, impl.One{})) {
			t.Fatalf("%v %v", ok, p)
		}
	}
	if seen[true] < 300 || seen[false] < 300 {
		t.Error(seen)
	}
}

func TestP20WhatCannotBeDone(t *testing.T) {
	n, o := fullOne()
	list := []impl.Do{
		{}, {Kind: 3}, {Kind: -1}, {Kind: 3, At: 1}, {Kind: 1 << 32},
		push(-1), push(2), push(5), push(1 << 32), push(-1 << 63), push(2, 1, 2), push(0, 1), push(0, 1, 2), push(1), push(1, 1), push(1, 1, 2, 3), push(1, highest+1, 0), push(1, 0, lowest-1), push(1, 1<<63-1, 0),
		take(-1), take(6), take(1), take(1 << 32), take(-1 << 63), {Kind: impl.DoTake, At: 0, Vals: []int{1}}, {Kind: impl.DoTake, At: 0, Vals: []int{0}}, {Kind: impl.DoTake, At: 4, Vals: []int{1, 2}}, {Kind: impl.DoTake, At: 1, Vals: []int{1}},
	}
	for _, d := range list {
		if got, ok := keepsOneDo(t, n, o, d); ok || !same(got, o) {
			t.Errorf("%v: %v %v", d, ok, got)
		}
	}
	if got := impl.OneRun(n, list); !same(got, impl.OneNew(n)) {
		t.Errorf("%v", got)
	}
}

func TestP20WhatCanBeDone(t *testing.T) {
	n, o := fullOne()
	cases := []struct {
		d    impl.Do
		turn func(o *impl.One)
	}{
		{push(0), func(o *impl.One) { o.Ways[4] = way(nil, nil, nil) }},
		{impl.Do{Kind: impl.DoPush, Vals: []int{}}, func(o *impl.One) { o.Ways[4] = way(nil, nil, nil) }},
		{push(1, lowest, highest), func(o *impl.One) { o.Ways[5] = way([]int{1, 2}, []int{lowest, highest}, []int{lowest, highest}) }},
		// A value that is low goes on by one wire; the other one, and the sinks of others, get nothing.
		{take(0), func(o *impl.One) {
			o.Insts[1] = inst(0, 1, 5, 3, 7)
			o.Ways[0], o.Ways[1] = way(lists(highest, lowest)...), way(lists(3)...)
		}},
		// The two values that come are the ones that the event names, and no move is of that event.
		{take(5), func(o *impl.One) {
			o.Insts[1] = inst(0, 1, 2, 6, 7)
			o.Ways[5] = way([]int{lowest, highest})
		}},
		// A block that stands in a state with a move without an event goes on by whatever comes.
		{take(4), func(o *impl.One) {
			o.Insts[0] = inst(0, 2, 3)
			o.Ways[4] = way(nil)
		}},
		{take(2), func(o *impl.One) {
			o.Insts[2] = inst(0, 4, highest, 0, 1)
			o.Ways[2] = way()
		}},
		// The last block tells outside alone.
		{take(3), func(o *impl.One) {
			o.Insts[3] = inst(0, 5, 0, 5, 0)
			o.Ways[3] = way(lists(6)...)
			o.Out = append(o.Out, said(0, 5))
		}},
	}
	for _, c := range cases {
		want := copyOf(o)
		c.turn(&want)
		if got, ok := keepsOneDo(t, n, o, c.d); !ok || !same(got, want) {
			t.Errorf("%v: %v %v, not %v", c.d, ok, got, want)
		}
	}
	if got, ok := keepsOneDo(t, n, o, impl.Do{Kind: impl.DoTake, At: 4, Vals: []int{}}); !ok || len(got.Ways[4].List) != 1 {
		t.Errorf("empty values: %v %v", ok, got)
	}
}

// TestP20OrderOfWiresAndSinks has one event that goes by three wires and a sink, and is told three times ahead of another one.
func TestP20OrderOfWiresAndSinks(t *testing.T) {
	n := starNet()
	o := doneAll(n, impl.OneNew(n), []impl.Do{push(0, 7), push(0, 8), push(1, 4), push(1, 5)})
	o, ok := keepsOneDo(t, n, o, take(7))
	if !ok {
		t.Fatal("not taken")
	}
	told := lists(70, 70, 70)
	want := []impl.Way{way(told...), way(told...), way(lists(1)...), way(), way(), way(), way(told...), way(lists(8)...), way(lists(4, 5)...), way()}
	if !same(o.Ways, want) || !same(o.Out, []impl.Said{said(2, 70), said(2, 70), said(2, 70)}) || !same(o.Insts[0], inst(0, 7, 1, 1)) {
		t.Error(o)
	}
	o = doneAll(n, o, []impl.Do{take(7), take(8), take(8)})
	told = lists(70, 70, 70, 81, 81, 81)
	want[0], want[1], want[6], want[2], want[7], want[8] = way(told...), way(told...), way(told...), way(lists(1, 2, 3)...), way(), way()
	if !same(o.Ways, want) || !same(o.Out[3:], []impl.Said{said(2, 81), said(2, 81), said(2, 81)}) {
		t.Error(o)
	}
	// Both sinks of the last block, by what it tells, not by their places.
	o, _ = keepsOneDo(t, n, o, take(6))
	if !same(o.Out[6:], []impl.Said{said(0, 700), said(0, 700), said(0, 700), said(1, 1)}) {
		t.Error(o.Out)
	}
	n.Sinks = []impl.End{end("u5", "p"), end("u1", "o"), end("u5", "o")}
	o.Out = nil
	o, _ = keepsOneDo(t, n, o, take(6))
	if !same(o.Out, []impl.Said{said(2, 701), said(2, 701), said(2, 701), said(0, 2)}) {
		t.Error(o.Out)
	}
	// Two wires to one block come by two ways.
	n.Wires[1], n.Wires[2] = wire("u1", "o", "u2", "f"), wire("u1", "p", "u3", "e")
	o = impl.OneRun(n, []impl.Do{push(0, 3), take(7)})
	if !same(o.Ways[0], way(lists(30, 30, 30)...)) || !same(o.Ways[1], o.Ways[0]) || !same(o.Ways[2], way(lists(1)...)) {
		t.Error(o)
	}
}

// TestP20WhatIsToldOutsideEnds has room for one or none of those that are told, while wires take all.
func TestP20WhatIsToldOutsideEnds(t *testing.T) {
	n := starNet()
	for size := 195; size <= impl.SaidMax; size++ {
		o := impl.OneNew(n)
		for i := range size {
			o.Out = append(o.Out, said(1, i))
		}
		o = doneAll(n, o, []impl.Do{push(0, 7)})
		p, ok := keepsOneDo(t, n, o, take(7))
		if !ok || !impl.OneOk(n, p) || len(p.Out) != min(size+3, 200) || !same(p.Out[:size], o.Out) {
			t.Errorf("%d: %v, %d were told", size, ok, len(p.Out))
		}
		for _, at := range []int{0, 1, 6} {
			if !same(p.Ways[at], way(lists(70, 70, 70)...)) {
				t.Errorf("%d: %v", size, p.Ways[at])
			}
		}
		// The last one that finds room is of the first sink; the others of that step find none.
		p, ok = keepsOneDo(t, n, p, take(6))
		if want := min(size+3+4, 200); !ok || len(p.Out) != want || size < 197 && p.Out[size+3].Sink != 0 {
			t.Errorf("%d: %v, %d were told", size, ok, len(p.Out))
		}
	}
}

// keepsPromise20 holds what was done against the words of the promise.
func keepsPromise20(t *testing.T, n impl.Net, o, p impl.One, d impl.Do, ok bool) {
	t.Helper()
	if !impl.OneOk(n, p) {
		t.Fatalf("not ok: %v", p)
	}
	if !ok {
		if !same(o, p) {
			t.Fatalf("changed: %v", p)
		}
		return
	}
	if d.Kind == impl.DoPush {
		want := copyOf(o)
		at := len(n.Wires) + d.At
		want.Ways[at].List = append(want.Ways[at].List, d.Vals)
		if !same(p, want) {
			t.Fatalf("pushed: %v, not %v", p, want)
		}
		return
	}
	others := 0
	for i := range o.Insts {
		others += bit(!same(o.Insts[i], p.Insts[i]))
	}
	rest := o.Ways[d.At].List[1:]
	if others > 1 || len(p.Ways[d.At].List) < len(rest) || !same(p.Ways[d.At].List[:len(rest)], rest) {
		t.Fatalf("%d are others, the rest is %v", others, p.Ways[d.At])
	}
	for i := range o.Ways {
		if size := len(o.Ways[i].List); i != d.At && (len(p.Ways[i].List) < size || !same(p.Ways[i].List[:size], o.Ways[i].List)) {
			t.Fatalf("way %d: %v", i, p.Ways[i])
		}
	}
	if len(p.Out) < len(o.Out) || !same(p.Out[:len(o.Out)], o.Out) {
		t.Fatalf("out: %v", p.Out)
	}
}

func TestP20DoneAsPromised(t *testing.T) {
	t.Parallel()
	r := rand.New(rand.NewSource(21))
	done, told, wired := 0, 0, 0
	for range 500 {
		n := someNet(r)
		o := impl.OneNew(n)
		if r.Intn(2) == 0 {
			o = someOne(r, n)
		}
		for range 15 {
			d := someDo(r, n)
			p, ok := keepsOneDo(t, n, o, d)
			keepsPromise20(t, n, o, p, d, ok)
			done += bit(ok)
			told += len(p.Out) - len(o.Out)
			for i := range n.Wires {
				wired += max(0, len(p.Ways[i].List)-len(o.Ways[i].List))
			}
			o = p
		}
	}
	if done < 3000 || told < 200 || wired < 500 {
		t.Errorf("%d were done, %d told outside, %d by wires", done, told, wired)
	}
}

func TestP21AllIsDoneOneByOne(t *testing.T) {
	t.Parallel()
	r := rand.New(rand.NewSource(22))
	nets := []impl.Net{mustNet(chainText), starNet()}
	for range 250 {
		nets = append(nets, someNet(r))
	}
	for _, n := range nets {
		list := someDos(r, n, r.Intn(40))
		hn, hl := hand(n), hand(list)
		got := impl.OneRun(hn.now, hl.now)
		want := wantNew(n)
		for _, d := range list {
			want, _ = wantDo(n, want, d)
		}
		if !same(got, want) || !same(got, doneAll(n, impl.OneNew(n), list)) || !impl.OneOk(n, got) {
			t.Fatalf("%v, not %v\n%v\n%s", got, want, list, wantNetText(n))
		}
		if !hn.isUntouched() || !hl.isUntouched() || !areApart(hn.now, hl.now, got) {
			t.Fatal("an argument was written, or memory is shared")
		}
		for node := -1; node < impl.NodesMax; node++ {
			if !same(impl.OneRun(impl.NetMove(n, node), list), got) {
				t.Fatalf("another one on node %d", node)
			}
		}
	}
}

func TestP21HowMuchIsDone(t *testing.T) {
	if impl.SaidMax != 200 || impl.RunMax != 500 || impl.DoPush != 1 || impl.DoTake != 2 {
		t.Error("a number is another one")
	}
	n := mustNet(chainText)
	if o := impl.OneRun(n, nil); !same(o, impl.OneNew(n)) {
		t.Errorf("nothing done: %v", o)
	}
	list := slices.Repeat([]impl.Do{push(0)}, impl.RunMax)
	if o := impl.OneRun(n, list); len(o.Ways[4].List) != 500 || !impl.OneOk(n, o) {
		t.Errorf("500: %d are on the way", len(o.Ways[4].List))
	}
	for _, d := range []impl.Do{push(0), push(9), {}} {
		if o := impl.OneRun(n, append(slices.Clone(list), d)); !same(o, impl.One{}) {
			t.Error("501 are done")
		}
	}
	// Half of them push, the others take: the last one that is done is done, too.
	list = append(slices.Repeat([]impl.Do{push(0)}, 250), slices.Repeat([]impl.Do{take(4)}, 250)...)
	if o := impl.OneRun(n, list); len(o.Ways[4].List) != 0 || len(o.Ways[0].List) != 250 || !same(o.Ways[0].List[249], []int{250}) || !same(o.Insts[0], inst(0, 250, 250)) {
		t.Errorf("%v", o)
	}
}

// TestP21ToldOutsideUpToItsLimit tells more than may be told outside; all else goes on.
func TestP21ToldOutsideUpToItsLimit(t *testing.T) {
	n := mustNet(countText + "use p count 0\nuse q count 1\nsource p.tick\nsource q.tick\nsink q.up\nsink p.up\n")
	var list []impl.Do
	for i := range 250 {
		list = append(list, push(i%2), take(i%2))
	}
	for size, want := range map[int]int{398: 199, 400: 200, 402: 200, 500: 200} {
		o := impl.OneRun(n, list[:size])
		if len(o.Out) != want || !impl.OneOk(n, o) || o.Insts[0].Vals[1]+o.Insts[1].Vals[1] != size/2 {
			t.Fatalf("%d: %d were told: %v", size, len(o.Out), o.Insts)
		}
		for i, x := range o.Out {
			if !same(x, said(1-i%2, i/2+1)) {
				t.Fatalf("%d: %v", i, x)
			}
		}
	}
}

// hasSink says whether a use has a sink.
func hasSink(n impl.Net, use string) bool {
	return slices.ContainsFunc(n.Sinks, func(e impl.End) bool { return e.Use == use })
}

func TestP22BlocksThatAreNotWired(t *testing.T) {
	t.Parallel()
	r := rand.New(rand.NewSource(23))
	tried, moved := 0, 0
	for range 700 {
		n := someNet(r)
		o := someOne(r, n)
		ends := wayEnds(n)
		for i := range ends {
			for j := range ends[:i] {
				a, b := ends[i].Use, ends[j].Use
				if a == b || wiresLead(n, a, b, 1) || wiresLead(n, b, a, 1) || hasSink(n, a) && hasSink(n, b) {
					continue
				}
				one := doneAll(n, o, []impl.Do{take(i), take(j)})
				other := doneAll(n, o, []impl.Do{take(j), take(i)})
				if !same(one, other) {
					t.Fatalf("%v, not %v, from %v by %d and %d\n%s", one, other, o, i, j, wantNetText(n))
				}
				tried++
				moved += bit(!same(one, o))
			}
		}
	}
	if tried < 500 || moved < 300 {
		t.Errorf("%d tried, %d moved", tried, moved)
	}
}

// TestP22BothTellToOne has two blocks that tell a third one, each by a way of its own.
func TestP22BothTellToOne(t *testing.T) {
	n := mustNet(countText + passText + "use p count 0\nuse q count 1\nuse r pass 2\nwire p.up r.val\nwire q.up r.val\nsource p.tick\nsource q.tick\nsink p.up\n")
	o := doneAll(n, impl.OneNew(n), []impl.Do{push(0), push(1), push(1), take(3)})
	one := doneAll(n, o, []impl.Do{take(2), take(3)})
	other := doneAll(n, o, []impl.Do{take(3), take(2)})
	if !same(one, other) || !same(one.Ways, []impl.Way{way(lists(1)...), way(lists(1, 2)...), way(), way()}) || !same(one.Out, []impl.Said{said(0, 1)}) {
		t.Errorf("%v, not %v", one, other)
	}
}
