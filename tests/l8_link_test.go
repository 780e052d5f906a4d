package tests

import (
	"math/rand"
	"runtime"
	"slices"
	"sync"
	"testing"
	"time"

	"loop.example/telltale/impl"
)

func sender(base int, wait ...[]int) impl.Send { return impl.Send{Base: base, Wait: wait} }

func receiver(next int, list ...[]int) impl.Recv { return impl.Recv{Next: next, List: list} }

// areSmall says whether lists can be at an end of a wire.
func areSmall(list [][]int) bool {
	return len(list) <= 3 && !slices.ContainsFunc(list, func(vals []int) bool { return !isSmall(vals) })
}

func wantSendOk(s impl.Send) bool {
	return areSmall(s.Wait) && s.Base >= 0 && s.Base <= 9999 && s.Base+len(s.Wait) <= 9999
}

func wantRecvOk(r impl.Recv) bool {
	return areSmall(r.List) && r.Next >= len(r.List) && r.Next <= 9999
}

func wantSendPut(s impl.Send, vals []int) (impl.Send, bool) {
	if !wantSendOk(s) {
		return impl.Send{}, false
	}
	if len(s.Wait) == 3 || s.Base+len(s.Wait) == 9999 || !isSmall(vals) {
		return s, false
	}
	return sender(s.Base, slices.Concat(s.Wait, [][]int{vals})...), true
}

func wantSendFrames(wire int, s impl.Send) []impl.Frame {
	var out []impl.Frame
	for i, vals := range s.Wait {
		out = append(out, data(wire, s.Base+i, vals...))
	}
	if !wantSendOk(s) || wire < 0 || wire > 6 {
		return nil
	}
	return out
}

func wantSendAck(s impl.Send, seq int) impl.Send {
	if !wantSendOk(s) {
		return impl.Send{}
	}
	for i := range len(s.Wait) + 1 {
		if seq == s.Base+i {
			return sender(seq, s.Wait[i:]...)
		}
	}
	return s
}

func wantRecvPut(r impl.Recv, seq int, vals []int) impl.Recv {
	if !wantRecvOk(r) {
		return impl.Recv{}
	}
	if seq != r.Next || seq == 9999 || len(r.List) == 3 || !isSmall(vals) {
		return r
	}
	return receiver(r.Next+1, slices.Concat(r.List, [][]int{vals})...)
}

func wantRecvAck(wire int, r impl.Recv) impl.Frame {
	if !wantRecvOk(r) || wire < 0 || wire > 6 {
		return impl.Frame{}
	}
	return ack(wire, r.Next)
}

// keepsMemory asks that nothing was written into an end and values that were handed over, and that an answer shares nothing with them.
func keepsMemory[E any](t *testing.T, what string, end handed[E], vals handed[[]int], got any) {
	t.Helper()
	if !end.isUntouched() || !vals.isUntouched() {
		t.Fatalf("%s: %v %v was written", what, end.was, vals.was)
	}
	if !areApart(end.now, vals.now, got) {
		t.Fatalf("%s: %v shares memory", what, got)
	}
}

func keepsSendPut(t *testing.T, s impl.Send, vals []int) (impl.Send, bool) {
	t.Helper()
	hs, hv := hand(s), hand(vals)
	got, ok := impl.SendPut(hs.now, hv.now)
	if want, wantOk := wantSendPut(s, vals); ok != wantOk || !same(got, want) {
		t.Fatalf("%v, %v: %v %v, not %v %v", s, vals, ok, got, wantOk, want)
	}
	keepsMemory(t, "SendPut", hs, hv, got)
	return got, ok
}

func keepsSendFrames(t *testing.T, wire int, s impl.Send) []impl.Frame {
	t.Helper()
	h := hand(s)
	got := impl.SendFrames(wire, h.now)
	if want := wantSendFrames(wire, s); !same(got, want) {
		t.Fatalf("%d, %v: %v, not %v", wire, s, got, want)
	}
	keepsMemory(t, "SendFrames", h, hand([]int(nil)), got)
	return got
}

func keepsSendAck(t *testing.T, s impl.Send, seq int) impl.Send {
	t.Helper()
	h := hand(s)
	got := impl.SendAck(h.now, seq)
	if want := wantSendAck(s, seq); !same(got, want) {
		t.Fatalf("%v, %d: %v, not %v", s, seq, got, want)
	}
	keepsMemory(t, "SendAck", h, hand([]int(nil)), got)
	return got
}

func keepsRecvPut(t *testing.T, r impl.Recv, seq int, vals []int) impl.Recv {
	t.Helper()
	hr, hv := hand(r), hand(vals)
	got := impl.RecvPut(hr.now, seq, hv.now)
	if want := wantRecvPut(r, seq, vals); !same(got, want) {
		t.Fatalf("%v, %d, %v: %v, not %v", r, seq, vals, got, want)
	}
	keepsMemory(t, "RecvPut", hr, hv, got)
	return got
}

func keepsRecvAck(t *testing.T, wire int, r impl.Recv) impl.Frame {
	t.Helper()
	h := hand(r)
	got := impl.RecvAck(wire, h.now)
	if want := wantRecvAck(wire, r); !same(got, want) {
		t.Fatalf("%d, %v: %v, not %v", wire, r, got, want)
	}
	keepsMemory(t, "RecvAck", h, hand([]int(nil)), got)
	return got
}

// edgeNumbers is numbers around all limits of an end of a wire.
func edgeNumbers() []int {
	return []int{-1 << 63, -1 << 32, -9999, -1, 0, 1, 2, 3, 4, 5, 100, 9994, 9995, 9996, 9997, 9998, 9999, 10000, 10001, 1 << 32, 1<<63 - 1}
}

// edgeValues is values that are ok, and such as are not.
func edgeValues() [][]int {
	return [][]int{nil, {}, {0}, {highest}, {lowest}, {1, 2}, {lowest, 0, highest}, {1, 2, 3, 4}, {0, 0, 0, 0, 0}, {highest + 1}, {lowest - 1}, {0, 1 << 32}, {0, 0, -1 << 63}, {1<<63 - 1, 0, 0}}
}

// edgeLists is lists at an end of a wire, from none to one more than there is room for, and such as have values that are not ok at each place.
func edgeLists() [][][]int {
	var out [][][]int
	for size := range 6 {
		list := make([][]int, size)
		for i := range list {
			list[i] = []int{[]int{highest, lowest, 7, 0, 1}[i]}
		}
		out = append(out, list)
		for at := range size {
			for _, vals := range edgeValues() {
				turned := slices.Clone(list)
				turned[at] = vals
				out = append(out, turned)
			}
		}
	}
	return append(out, make([][]int, 100000))
}

func someList(r *rand.Rand) [][]int {
	var out [][]int
	for range r.Intn(4) {
		out = append(out, some32s(r, r.Intn(4)))
	}
	return out
}

func someSend(r *rand.Rand) impl.Send {
	s := sender(0, someList(r)...)
	most := 9999 - len(s.Wait)
	s.Base = []int{0, 1, 2, r.Intn(most + 1), most - 1, most}[r.Intn(6)]
	return s
}

func someRecv(r *rand.Rand) impl.Recv {
	x := receiver(0, someList(r)...)
	least := len(x.List)
	x.Next = []int{least, least + 1, least + r.Intn(9999-least), 9998, 9999}[r.Intn(5)]
	return x
}

// TestP27EndsThatCannotBeSo holds SendOk, and all that asks for it, against the document at each limit, and one beyond.
func TestP27EndsThatCannotBeSo(t *testing.T) {
	if impl.RoomMax != 3 || impl.ValMax != 3 || impl.WireMax != 7 {
		t.Error("a number is another one")
	}
	seen := map[bool]int{}
	for _, list := range edgeLists() {
		for _, num := range edgeNumbers() {
			h := hand(sender(num, list...))
			want := wantSendOk(h.was)
			seen[want]++
			if got := impl.SendOk(h.now); got != want || !h.isUntouched() {
				t.Fatalf("%v: %v, not %v", h.was, got, want)
			}
			if want || len(list) > 5 {
				continue
			}
			got, ok := keepsSendPut(t, h.was, []int{1})
			if ok || !same(got, impl.Send{}) || len(keepsSendFrames(t, 0, h.was)) > 0 || !same(keepsSendAck(t, h.was, num), impl.Send{}) || !same(keepsSendAck(t, h.was, 0), impl.Send{}) {
				t.Fatalf("%v is taken", h.was)
			}
		}
	}
	if seen[true] < 200 || seen[false] < 200 {
		t.Error(seen)
	}
	for _, s := range []impl.Send{{}, sender(9999), sender(9996, lists(1, 2, 3)...), sender(0, nil, nil, nil), sender(0, []int{lowest, 0, highest})} {
		if !impl.SendOk(s) {
			t.Errorf("%v is not ok", s)
		}
	}
	for _, s := range []impl.Send{sender(-1), sender(10000), sender(9997, lists(1, 2, 3)...), sender(9999, nil), sender(0, nil, nil, nil, nil), sender(0, []int{highest + 1}), sender(0, make([]int, 4))} {
		if impl.SendOk(s) {
			t.Errorf("%v is ok", s)
		}
	}
}

func TestP27WaitsLast(t *testing.T) {
	var s impl.Send
	var want [][]int
	for i, vals := range [][]int{{}, {1, 2, 3}, {lowest}} {
		var ok bool
		want = append(want, vals)
		if s, ok = keepsSendPut(t, s, vals); !ok || !same(s, sender(0, want...)) {
			t.Fatalf("%d: %v %v", i, ok, s)
		}
	}
	for _, vals := range edgeValues() {
		if got, ok := keepsSendPut(t, s, vals); ok || !same(got, s) {
			t.Errorf("no room, but %v %v", ok, got)
		}
	}
	// The last number may be Base, and how many came, but nothing has it.
	for base := 9994; base <= 9999; base++ {
		s := sender(base)
		for i := range 4 {
			got, ok := keepsSendPut(t, s, []int{i})
			if ok != (i < 3 && base+i < 9999) || !impl.SendOk(got) {
				t.Errorf("%v: %v %v", s, ok, got)
			}
			s = got
		}
	}
	for _, vals := range edgeValues() {
		got, ok := keepsSendPut(t, sender(5, []int{1}), vals)
		if ok != isSmall(vals) || ok && !same(got, sender(5, []int{1}, vals)) || !ok && !same(got, sender(5, []int{1})) {
			t.Errorf("%v: %v %v", vals, ok, got)
		}
	}
}

func TestP27AsLongAsThereIsRoom(t *testing.T) {
	r := rand.New(rand.NewSource(27))
	put := map[bool]int{}
	for range 4000 {
		s := someSend(r)
		vals := some32s(r, r.Intn(4))
		if r.Intn(4) == 0 {
			vals = someValues(r, r.Intn(6))
		}
		got, ok := keepsSendPut(t, s, vals)
		put[ok]++
		if !impl.SendOk(got) || ok && (got.Base != s.Base || !same(got.Wait[:len(s.Wait)], s.Wait) || !same(got.Wait[len(s.Wait):], [][]int{vals})) || !ok && !same(got, s) {
			t.Fatalf("%v, %v: %v %v", s, vals, ok, got)
		}
	}
	if put[true] < 500 || put[false] < 500 {
		t.Error(put)
	}
}

func TestP28FramesOfAllThatWaits(t *testing.T) {
	s := sender(41, []int{1, 2}, nil, []int{highest, lowest, 0})
	if got := keepsSendFrames(t, 6, s); !same(got, []impl.Frame{data(6, 41, 1, 2), data(6, 42), data(6, 43, highest, lowest, 0)}) {
		t.Error(got)
	}
	for _, wire := range edgeNumbers() {
		for _, s := range []impl.Send{s, {}, sender(9996, lists(1, 2, 3)...), sender(9999), sender(9997, lists(1, 2, 3)...)} {
			keepsSendFrames(t, wire, s)
		}
	}
	for wire := -3; wire < 12; wire++ {
		if got := keepsSendFrames(t, wire, s); len(got) != 3*bit(wire >= 0 && wire < 7) {
			t.Errorf("%d: %v", wire, got)
		}
	}
	for _, f := range keepsSendFrames(t, 0, sender(9996, lists(1, 2, 3)...)) {
		if !impl.FrameOk(f) || f.Seq > 9998 {
			t.Error(f)
		}
	}
	a, b := impl.SendFrames(1, s), impl.SendFrames(1, s)
	if !areApart(s, a, b) {
		t.Error("memory is shared")
	}
}

// TestP28AllComesThoughTwice brings frames twice, as a whole or each, and through their texts.
func TestP28AllComesThoughTwice(t *testing.T) {
	r := rand.New(rand.NewSource(28))
	for range 3000 {
		s, wire := someSend(r), r.Intn(7)
		frames := keepsSendFrames(t, wire, s)
		if len(frames) != len(s.Wait) {
			t.Fatalf("%v: %v", s, frames)
		}
		list := slices.Concat(frames, frames)
		if r.Intn(2) == 0 {
			slices.SortStableFunc(list, func(a, b impl.Frame) int { return a.Seq - b.Seq })
		}
		x := receiver(s.Base)
		for _, f := range list {
			back, ok := impl.FrameGet(impl.FramePut(f))
			if !ok || !same(back, f) || back.Wire != wire || back.Kind != impl.FrameData {
				t.Fatalf("%v: %v %v", f, ok, back)
			}
			x = keepsRecvPut(t, x, back.Seq, back.Vals)
		}
		if !same(x, receiver(s.Base+len(s.Wait), s.Wait...)) {
			t.Fatalf("%v came of %v", x, s)
		}
		s = keepsSendAck(t, s, keepsRecvAck(t, wire, x).Seq)
		if !same(s, sender(x.Next)) {
			t.Fatalf("%v is left", s)
		}
	}
}

func TestP29WhatCameWaitsNoMore(t *testing.T) {
	s := sender(7, lists(70, 80, 90)...)
	cases := map[int]impl.Send{6: s, 7: s, 8: sender(8, lists(80, 90)...), 9: sender(9, lists(90)...), 10: sender(10), 11: s, 0: s, -1: s, -7: s, 9999: s, 10000: s, 7 + 1<<32: s, 8 - 1<<32: s, -1 << 63: s, 1<<63 - 1: s}
	for seq, want := range cases {
		if got := keepsSendAck(t, s, seq); !same(got, want) {
			t.Errorf("%d: %v, not %v", seq, got, want)
		}
	}
	// What is told to have come, late, and what was not sent yet.
	late := keepsSendAck(t, keepsSendAck(t, s, 9), 8)
	if !same(late, sender(9, lists(90)...)) || !same(keepsSendAck(t, late, 11), late) {
		t.Error(late)
	}
	for _, base := range []int{0, 1, 9995, 9996, 9997, 9998, 9999} {
		for size := 0; size <= 3; size++ {
			for _, seq := range edgeNumbers() {
				keepsSendAck(t, sender(base, lists(1, 2, 3)[:size]...), seq)
			}
		}
	}
	if got := keepsSendAck(t, sender(9996, lists(1, 2, 3)...), 9999); !same(got, sender(9999)) {
		t.Error(got)
	}
}

func TestP29AgainAndLower(t *testing.T) {
	r := rand.New(rand.NewSource(29))
	gone := map[int]int{}
	for range 3000 {
		s := someSend(r)
		seq := s.Base + r.Intn(7) - 2
		got := keepsSendAck(t, s, seq)
		size := got.Base - s.Base
		gone[size]++
		if !impl.SendOk(got) || size < 0 || !same(got.Wait, s.Wait[size:]) {
			t.Fatalf("%v, %d: %v", s, seq, got)
		}
		if in := seq >= s.Base && seq <= s.Base+len(s.Wait); in && got.Base != seq || !in && !same(got, s) {
			t.Fatalf("%v, %d: %v", s, seq, got)
		}
		for _, again := range []int{seq, seq - 1, s.Base, s.Base - 1, 0, -1} {
			if again <= got.Base && !same(keepsSendAck(t, got, again), got) {
				t.Fatalf("%v, %d, and then %d", s, seq, again)
			}
		}
	}
	for size := range 4 {
		if gone[size] < 100 {
			t.Error(gone)
		}
	}
}

// TestP30EndsThatCannotBeSo holds RecvOk, and all that asks for it, against the document at each limit, and one beyond.
func TestP30EndsThatCannotBeSo(t *testing.T) {
	seen := map[bool]int{}
	for _, list := range edgeLists() {
		for _, num := range edgeNumbers() {
			h := hand(receiver(num, list...))
			want := wantRecvOk(h.was)
			seen[want]++
			if got := impl.RecvOk(h.now); got != want || !h.isUntouched() {
				t.Fatalf("%v: %v, not %v", h.was, got, want)
			}
			if want || len(list) > 5 {
				continue
			}
			if !same(keepsRecvPut(t, h.was, num, []int{1}), impl.Recv{}) || !same(keepsRecvPut(t, h.was, -1, nil), impl.Recv{}) || !same(keepsRecvAck(t, 0, h.was), impl.Frame{}) {
				t.Fatalf("%v is taken", h.was)
			}
		}
	}
	if seen[true] < 200 || seen[false] < 200 {
		t.Error(seen)
	}
	for _, x := range []impl.Recv{{}, receiver(9999), receiver(9999, lists(1, 2, 3)...), receiver(3, lists(1, 2, 3)...), receiver(1, []int{lowest, 0, highest}), receiver(1, nil)} {
		if !impl.RecvOk(x) {
			t.Errorf("%v is not ok", x)
		}
	}
	for _, x := range []impl.Recv{receiver(-1), receiver(10000), receiver(2, lists(1, 2, 3)...), receiver(0, nil), receiver(9, nil, nil, nil, nil), receiver(1, []int{lowest - 1}), receiver(1, make([]int, 4))} {
		if impl.RecvOk(x) {
			t.Errorf("%v is ok", x)
		}
	}
}

func TestP30TheNextAlone(t *testing.T) {
	x := receiver(5, lists(3, 4)...)
	for _, seq := range []int{-1 << 63, -5, -1, 0, 3, 4, 6, 7, 8, 9999, 10000, 5 + 1<<32, 5 - 1<<32, 1<<63 - 1} {
		if got := keepsRecvPut(t, x, seq, []int{5}); !same(got, x) {
			t.Errorf("%d: %v", seq, got)
		}
	}
	for _, vals := range edgeValues() {
		want := x
		if isSmall(vals) {
			want = receiver(6, []int{3}, []int{4}, vals)
		}
		if got := keepsRecvPut(t, x, 5, vals); !same(got, want) {
			t.Errorf("%v: %v", vals, got)
		}
	}
	full := keepsRecvPut(t, x, 5, []int{5})
	for _, seq := range []int{3, 4, 5, 6, 7} {
		if got := keepsRecvPut(t, full, seq, []int{6}); !same(got, full) {
			t.Errorf("no room, but %v by %d", got, seq)
		}
	}
	if got := keepsRecvPut(t, receiver(9998), 9998, []int{1}); !same(got, receiver(9999, []int{1})) {
		t.Error(got)
	}
	if got := keepsRecvPut(t, receiver(9999), 9999, []int{1}); !same(got, receiver(9999)) {
		t.Error(got)
	}
	for _, next := range []int{-1, 10000} {
		if got := keepsRecvPut(t, receiver(next), next, []int{1}); !same(got, impl.Recv{}) {
			t.Error(got)
		}
	}
}

func TestP30AgainItIsTheSame(t *testing.T) {
	r := rand.New(rand.NewSource(30))
	taken := map[bool]int{}
	for range 4000 {
		x := someRecv(r)
		seq := x.Next + []int{0, 0, 0, 1, -1, 2, -2}[r.Intn(7)]
		vals := some32s(r, r.Intn(4))
		if r.Intn(5) == 0 {
			vals = someValues(r, r.Intn(6))
		}
		got := keepsRecvPut(t, x, seq, vals)
		is := got.Next != x.Next
		taken[is]++
		if !impl.RecvOk(got) || is && (seq != x.Next || got.Next != seq+1 || !same(got, receiver(seq+1, append(slices.Clone(x.List), vals)...))) || !is && !same(got, x) {
			t.Fatalf("%v, %d, %v: %v", x, seq, vals, got)
		}
		if is && (!same(keepsRecvPut(t, got, seq, vals), got) || !same(keepsRecvPut(t, got, seq, []int{1}), got)) {
			t.Fatalf("%v, %d, %v: another one, when it comes again", x, seq, vals)
		}
	}
	if taken[true] < 500 || taken[false] < 500 {
		t.Error(taken)
	}
}

func TestP31HowManyCame(t *testing.T) {
	for _, wire := range edgeNumbers() {
		for _, next := range edgeNumbers() {
			for size := 0; size <= 4; size++ {
				x := receiver(next, make([][]int, size)...)
				f := keepsRecvAck(t, wire, x)
				if ok := wantRecvOk(x) && wire >= 0 && wire <= 6; impl.FrameOk(f) != ok || ok && (f.Kind != 2 || f.Wire != wire || f.Seq != next || len(f.Vals) > 0) || !ok && !same(f, impl.Frame{}) {
					t.Fatalf("%d, %v: %v", wire, x, f)
				}
			}
		}
	}
	r := rand.New(rand.NewSource(31))
	for range 2000 {
		x, wire := someRecv(r), r.Intn(7)
		f := keepsRecvAck(t, wire, x)
		back, ok := impl.FrameGet(impl.FramePut(f))
		if !same(f, ack(wire, x.Next)) || !ok || !same(back, f) {
			t.Fatalf("%v: %v %v", x, ok, f)
		}
	}
	for wire := range 7 {
		if f := keepsRecvAck(t, wire, impl.Recv{}); !same(f, ack(wire, 0)) {
			t.Error(f)
		}
		if f := keepsRecvAck(t, wire, receiver(9999, lists(1, 2, 3)...)); !same(f, ack(wire, 9999)) {
			t.Error(f)
		}
	}
}

// TestP30WhateverBecomesOfFrames sends values over a wire that loses, doubles, delays and spoils: what is taken is what was put, each once, in order.
func TestP30WhateverBecomesOfFrames(t *testing.T) {
	r := rand.New(rand.NewSource(32))
	for round := range 20 {
		first := []int{0, 9900, r.Intn(9000)}[round%3]
		s, x := sender(first), receiver(first)
		var put, taken [][]int
		var air []string
		for range 2000 {
			switch r.Intn(6) {
			case 0:
				vals := some32s(r, r.Intn(4))
				var ok bool
				if s, ok = impl.SendPut(s, vals); ok {
					put = append(put, vals)
				}
			case 1:
				for _, f := range impl.SendFrames(3, s) {
					air = append(air, impl.FramePut(f))
				}
				air = append(air, impl.FramePut(impl.RecvAck(3, x)))
				air = air[max(0, len(air)-10):]
			case 2:
				if len(x.List) > 0 {
					taken = append(taken, x.List[0])
					x = receiver(x.Next, x.List[1:]...)
				}
			default:
				air, s, x = comes(r, air, s, x)
			}
			if !impl.SendOk(s) || !impl.RecvOk(x) {
				t.Fatalf("%v %v", s, x)
			}
		}
		all := slices.Concat(taken, x.List, s.Wait[x.Next-s.Base:])
		if !same(all, put) || len(taken) < 50 {
			t.Fatalf("%d were put, %d taken: %v %v", len(put), len(taken), s, x)
		}
	}
}

// comes lets one of the frames under way come, or what is left of it; it may stay, too.
func comes(r *rand.Rand, air []string, s impl.Send, x impl.Recv) ([]string, impl.Send, impl.Recv) {
	if len(air) == 0 {
		return air, s, x
	}
	at := r.Intn(len(air))
	text := air[at]
	if r.Intn(3) > 0 {
		air = slices.Delete(air, at, at+1)
	}
	switch r.Intn(5) {
	case 0:
		text = spoilt(r, text)
	case 1:
		return air, s, x
	}
	switch f, ok := impl.FrameGet(text); {
	case ok && f.Kind == impl.FrameData:
		x = impl.RecvPut(x, f.Seq, f.Vals)
	case ok && f.Kind == impl.FrameAck:
		s = impl.SendAck(s, f.Seq)
	}
	return air, s, x
}

// TestP27AskedByManyAtOnce asks for the same of one end from many sides: all answer alike, and nobody is left running.
func TestP27AskedByManyAtOnce(t *testing.T) {
	running := runtime.NumGoroutine()
	s, x := sender(3, lists(3, 4)...), receiver(4, lists(2, 3)...)
	wrong := make([]bool, 16)
	var all sync.WaitGroup
	for i := range wrong {
		all.Go(func() {
			for range 200 {
				put, ok := impl.SendPut(s, []int{5})
				wrong[i] = wrong[i] || !ok || !same(put, sender(3, lists(3, 4, 5)...)) ||
					!same(impl.SendAck(s, 4), sender(4, []int{4})) ||
					!same(impl.SendFrames(i%7, s), []impl.Frame{data(i%7, 3, 3), data(i%7, 4, 4)}) ||
					!same(impl.RecvPut(x, 4, []int{4}), receiver(5, lists(2, 3, 4)...)) ||
					!same(impl.RecvAck(i%7, x), ack(i%7, 4))
			}
		})
	}
	all.Wait()
	if slices.Contains(wrong, true) {
		t.Error(wrong)
	}
	// One that has given all its answers may still be about to end.
	for range 1000 {
		if runtime.NumGoroutine() <= running {
			return
		}
		time.Sleep(time.Millisecond)
	}
	t.Errorf("%d are running, not %d", runtime.NumGoroutine(), running)
}
