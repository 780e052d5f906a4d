package tests

import (
	"math/rand"
	"slices"
	"strings"
	"testing"

	"loop.example/telltale/impl"
)

func beat(source, first, every int) impl.Beat {
	return impl.Beat{Source: source, First: first, Every: every}
}

func fire(at, source int) impl.Fire { return impl.Fire{At: at, Source: source} }

// wantClockOk is what the document asks of beats.
func wantClockOk(list []impl.Beat) bool {
	for _, b := range list {
		if b.Source < 0 || b.Source > 2 || b.First < 0 || b.First > 9999 || b.Every < 1 || b.Every > 9999 {
			return false
		}
	}
	return len(list) <= 3
}

func wantSpan(from, to int) bool {
	return from >= 0 && from <= to && to <= 9999 && to <= from+40
}

// wantAt is what comes of beats that are ok at one time.
func wantAt(list []impl.Beat, at int) []impl.Fire {
	var out []impl.Fire
	for _, b := range list {
		if at >= b.First && (at-b.First)%b.Every == 0 {
			out = append(out, fire(at, b.Source))
		}
	}
	return out
}

// wantDue is what the document asks for of beats and a span that are ok, time by time.
func wantDue(list []impl.Beat, from, to int) []impl.Fire {
	var out []impl.Fire
	for at := from; at < to; at++ {
		out = append(out, wantAt(list, at)...)
	}
	return out
}

// wantNext is what the document asks for of beats that are ok, of which there is one at least.
func wantNext(list []impl.Beat, from int) impl.Fire {
	for at := from; ; at++ {
		if now := wantAt(list, at); len(now) > 0 {
			return now[0]
		}
	}
}

// wantClockRun is what the document asks for of what is ok.
func wantClockRun(w impl.World, list []impl.Beat, from, to, rounds int) (impl.World, []impl.Fire) {
	w = copyOf(w)
	var missed []impl.Fire
	for _, f := range wantDue(list, from, to) {
		if f.Source < len(w.Net.Sources) && wantPush(&w, f.Source, make([]int, inSize(w.Net, w.Net.Sources[f.Source]))) {
			w = wantCalm(w, rounds)
		} else {
			missed = append(missed, f)
		}
	}
	return w, missed
}

// someBeats is any beats that are ok; often several come at one time.
func someBeats(r *rand.Rand) []impl.Beat {
	var out []impl.Beat
	for range r.Intn(4) {
		first := []int{0, 1, r.Intn(50), r.Intn(10000), 9958 + r.Intn(42), 9999}[r.Intn(6)]
		every := []int{1, 2, 3, 1 + r.Intn(50), 1 + r.Intn(9999), 9999}[r.Intn(6)]
		out = append(out, beat(r.Intn(3), first, every))
	}
	return out
}

// someSpan is any span, mostly one in which something comes.
func someSpan(r *rand.Rand, list []impl.Beat) (int, int) {
	from := []int{0, r.Intn(60), r.Intn(10000), 9959, 9999}[r.Intn(5)]
	if len(list) > 0 && r.Intn(2) == 0 {
		b := list[r.Intn(len(list))]
		from = b.First + r.Intn(4)*b.Every - r.Intn(41)
	}
	from = max(0, min(9999, from))
	return from, min(9999, from+[]int{0, 1, r.Intn(41), 39, 40}[r.Intn(5)])
}

// keepsClock asks for all that comes, and what comes next, as the document asks for it, and that nothing is written or shared.
func keepsClock(t *testing.T, list []impl.Beat, from, to int) []impl.Fire {
	t.Helper()
	h := hand(list)
	due := impl.ClockDue(h.now, from, to)
	next, found := impl.ClockNext(h.now, from)
	if want := wantDue(list, from, to); !impl.ClockOk(h.now) || !same(due, want) {
		t.Fatalf("%v in %d..%d: %v, not %v", list, from, to, due, want)
	}
	if found != (len(list) > 0) || found && next != wantNext(list, from) || !found && next != (impl.Fire{}) {
		t.Fatalf("%v from %d on: %v %v", list, from, found, next)
	}
	if !h.isUntouched() || !areApart(h.now, due, impl.ClockDue(h.now, from, to)) {
		t.Fatalf("%v: an argument was written, or memory is shared", list)
	}
	return due
}

// isNoClock asks that nothing comes of beats, or in a span, that are not ok.
func isNoClock(t *testing.T, list []impl.Beat, from, to int) {
	t.Helper()
	h := hand(list)
	if due := impl.ClockDue(h.now, from, to); len(due) > 0 {
		t.Errorf("%v in %d..%d: %v", list, from, to, due)
	}
	w := impl.WorldPlay(mustNet(twinText), []impl.Event{pushes(0), takes(2)})
	if got, missed := impl.ClockRun(w, h.now, from, to, 1); !same(got, impl.World{}) || len(missed) > 0 {
		t.Errorf("%v in %d..%d: %v %v", list, from, to, got, missed)
	}
	if !h.isUntouched() {
		t.Errorf("%v: an argument was written", list)
	}
}

func TestP59BeatsThatAreOkAndNot(t *testing.T) {
	if impl.BeatMax != 3 || impl.TimeMax != 9999 || impl.SpanMax != 40 || impl.RoundMax != 3 {
		t.Error("a limit is another one")
	}
	good := []impl.Beat{beat(0, 0, 1), beat(2, 9999, 9999), beat(1, 5, 7)}
	far := []int{-1 << 63, -1 << 32, -2, -1, 0, 1, 2, 3, 4, 9998, 9999, 10000, 10001, 1 << 32, 1<<32 + 1, 1<<63 - 1}
	for at := range good {
		for _, num := range far {
			for part := range 3 {
				list := slices.Clone(good)
				*[]*int{&list[at].Source, &list[at].First, &list[at].Every}[part] = num
				want := []bool{num >= 0 && num <= 2, num >= 0 && num <= 9999, num >= 1 && num <= 9999}[part]
				if got := impl.ClockOk(list); got != want || got != wantClockOk(list) {
					t.Errorf("%v: %v, not %v", list, got, want)
				}
				if want {
					keepsClock(t, list, 0, 40)
					continue
				}
				isNoClock(t, list, 0, 40)
				if next, ok := impl.ClockNext(list, 0); ok || next != (impl.Fire{}) {
					t.Errorf("%v: %v", list, next)
				}
			}
		}
	}
	for size := range 6 {
		list := slices.Repeat([]impl.Beat{beat(1, 3, 2)}, size)
		if got := impl.ClockOk(list); got != (size <= 3) {
			t.Errorf("%d beats: %v", size, got)
		}
		next, ok := impl.ClockNext(list, 0)
		if want := size > 0 && size <= 3; ok != want || next != fire(3*bit(want), bit(want)) {
			t.Errorf("%d beats: %v %v", size, next, ok)
		}
		if size > 3 {
			isNoClock(t, list, 0, 10)
		}
	}
}

func TestP59SpansThatAreOkAndNot(t *testing.T) {
	list := []impl.Beat{beat(0, 0, 1)}
	edges := []int{-1 << 63, -1<<63 + 1, -1 << 32, -41, -40, -1, 0, 1, 39, 40, 41, 42, 9957, 9958, 9959, 9960, 9998, 9999, 10000, 10001, 1 << 32, 1<<63 - 40, 1<<63 - 1}
	seen := map[bool]int{}
	for _, from := range edges {
		for _, to := range edges {
			ok := wantSpan(from, to)
			seen[ok]++
			if !ok {
				isNoClock(t, list, from, to)
			} else if due := keepsClock(t, list, from, to); len(due) != to-from {
				t.Errorf("%d..%d: %v", from, to, due)
			}
		}
		next, ok := impl.ClockNext(list, from)
		if want := from >= 0 && from <= 9999; ok != want || next != fire(from*bit(want), 0) {
			t.Errorf("%d: %v %v", from, next, ok)
		}
	}
	if seen[true] < 20 || len(impl.ClockDue(list, 0, 40)) != 40 || len(impl.ClockDue(list, 9959, 9999)) != 40 || len(impl.ClockDue(list, 0, 41)) > 0 {
		t.Error(seen)
	}
}

func TestP59OneSpanBehindTheOther(t *testing.T) {
	r := rand.New(rand.NewSource(59))
	came, halves := 0, 0
	for range 3000 {
		list := someBeats(r)
		from, to := someSpan(r, list)
		all := keepsClock(t, list, from, to)
		for mid := from; mid <= to; mid++ {
			first, rest := impl.ClockDue(list, from, mid), impl.ClockDue(list, mid, to)
			if !same(slices.Concat(first, rest), all) {
				t.Fatalf("%v: %v in %d..%d, %v up to %d, not %v", list, first, from, mid, rest, to, all)
			}
			halves += bit(len(first) > 0 && len(rest) > 0)
		}
		came += len(all)
	}
	if came < 3000 || halves < 3000 {
		t.Errorf("%d came, %d times in both spans", came, halves)
	}
}

func TestP60WhatComes(t *testing.T) {
	cases := []struct {
		name     string
		list     []impl.Beat
		from, to int
		want     []impl.Fire
	}{
		{"no beats", nil, 0, 40, nil},
		{"an empty list of beats", []impl.Beat{}, 0, 40, nil},
		{"an empty span", []impl.Beat{beat(0, 5, 1)}, 5, 5, nil},
		{"an empty span ahead of all", []impl.Beat{beat(0, 5, 1)}, 0, 0, nil},
		{"an empty span at the end of times", []impl.Beat{beat(0, 5, 1)}, 9999, 9999, nil},
		{"at the first time of a span", []impl.Beat{beat(1, 5, 10)}, 5, 15, []impl.Fire{fire(5, 1)}},
		{"at the end of a span", []impl.Beat{beat(1, 5, 10)}, 6, 15, nil},
		{"at the last time of a span", []impl.Beat{beat(1, 5, 10)}, 6, 16, []impl.Fire{fire(15, 1)}},
		{"a span that ends at First", []impl.Beat{beat(2, 20, 3)}, 0, 20, nil},
		{"a span that ends behind First", []impl.Beat{beat(2, 20, 3)}, 0, 21, []impl.Fire{fire(20, 2)}},
		{"a span ahead of First, by whole times", []impl.Beat{beat(2, 20, 5)}, 5, 16, nil},
		{"a span of one time", []impl.Beat{beat(0, 0, 2)}, 8, 9, []impl.Fire{fire(8, 0)}},
		{"a span of one other time", []impl.Beat{beat(0, 0, 2)}, 9, 10, nil},
		{"First 0", []impl.Beat{beat(0, 0, 9999)}, 0, 40, []impl.Fire{fire(0, 0)}},
		{"First 0, far behind", []impl.Beat{beat(0, 0, 9999)}, 1, 41, nil},
		{"Every TimeMax, at the end of times", []impl.Beat{beat(0, 0, 9999)}, 9959, 9999, nil},
		{"First TimeMax", []impl.Beat{beat(0, 9999, 1)}, 9959, 9999, nil},
		{"First ahead of TimeMax", []impl.Beat{beat(0, 9998, 1)}, 9959, 9999, []impl.Fire{fire(9998, 0)}},
		{"Every 1", []impl.Beat{beat(0, 3, 1)}, 0, 7, []impl.Fire{fire(3, 0), fire(4, 0), fire(5, 0), fire(6, 0)}},
		{"far behind First", []impl.Beat{beat(0, 2, 7)}, 9000, 9016, []impl.Fire{fire(9004, 0), fire(9011, 0)}},
		{"two beats of one time", []impl.Beat{beat(1, 0, 4), beat(0, 0, 2)}, 1, 9, []impl.Fire{fire(2, 0), fire(4, 1), fire(4, 0), fire(6, 0), fire(8, 1), fire(8, 0)}},
		{"two beats of one time, the other way round", []impl.Beat{beat(0, 0, 2), beat(1, 0, 4)}, 1, 9, []impl.Fire{fire(2, 0), fire(4, 0), fire(4, 1), fire(6, 0), fire(8, 0), fire(8, 1)}},
		{"two beats of one source", []impl.Beat{beat(2, 1, 3), beat(2, 0, 2)}, 0, 5, []impl.Fire{fire(0, 2), fire(1, 2), fire(2, 2), fire(4, 2), fire(4, 2)}},
		{"one beat three times", slices.Repeat([]impl.Beat{beat(1, 2, 2)}, 3), 2, 5, slices.Concat(slices.Repeat([]impl.Fire{fire(2, 1)}, 3), slices.Repeat([]impl.Fire{fire(4, 1)}, 3))},
		{"three beats, by place at one time", []impl.Beat{beat(2, 6, 1), beat(0, 0, 6), beat(1, 3, 3)}, 3, 8, []impl.Fire{fire(3, 1), fire(6, 2), fire(6, 0), fire(6, 1), fire(7, 2)}},
		{"three beats, one behind the other", []impl.Beat{beat(0, 12, 9), beat(1, 10, 9), beat(2, 11, 9)}, 0, 22, []impl.Fire{fire(10, 1), fire(11, 2), fire(12, 0), fire(19, 1), fire(20, 2), fire(21, 0)}},
	}
	for _, c := range cases {
		if got := keepsClock(t, c.list, c.from, c.to); !same(got, c.want) {
			t.Errorf("%s: %v, not %v", c.name, got, c.want)
		}
	}
}

func TestP60AsOftenAsItMust(t *testing.T) {
	r := rand.New(rand.NewSource(60))
	several := 0
	for range 4000 {
		list := someBeats(r)
		from, to := someSpan(r, list)
		due := impl.ClockDue(list, from, to)
		alone := 0
		for _, b := range list {
			own := impl.ClockDue([]impl.Beat{b}, from, to)
			for i, f := range own {
				if f.Source != b.Source || f.At < max(from, b.First) || f.At >= to || (f.At-b.First)%b.Every != 0 || i > 0 && f.At != own[i-1].At+b.Every {
					t.Fatalf("%v in %d..%d: %v", b, from, to, own)
				}
			}
			if len(own) > 0 && own[0].At-b.Every >= max(from, b.First) || len(own) > 0 && own[len(own)-1].At+b.Every < to || len(own) == 0 && len(wantDue([]impl.Beat{b}, from, to)) > 0 {
				t.Fatalf("%v in %d..%d: %v is not all", b, from, to, own)
			}
			alone += len(own)
		}
		if len(due) != alone || !slices.IsSortedFunc(due, func(a, b impl.Fire) int { return a.At - b.At }) {
			t.Fatalf("%v in %d..%d: %v", list, from, to, due)
		}
		several += bit(len(list) > 1 && len(due) > 5)
	}
	if several < 500 {
		t.Errorf("%d times several came", several)
	}
}

func TestP61WhatComesNext(t *testing.T) {
	cases := []struct {
		name string
		list []impl.Beat
		from int
		want impl.Fire
	}{
		{"ahead of First", []impl.Beat{beat(1, 50, 3)}, 0, fire(50, 1)},
		{"on First", []impl.Beat{beat(1, 50, 3)}, 50, fire(50, 1)},
		{"behind First", []impl.Beat{beat(1, 50, 3)}, 51, fire(53, 1)},
		{"on a later time", []impl.Beat{beat(1, 50, 3)}, 53, fire(53, 1)},
		{"behind a later time", []impl.Beat{beat(1, 50, 3)}, 54, fire(56, 1)},
		{"far behind First", []impl.Beat{beat(1, 0, 9998)}, 9998, fire(9998, 1)},
		{"the first beat of one time", []impl.Beat{beat(2, 4, 4), beat(1, 0, 2), beat(0, 0, 8)}, 5, fire(6, 1)},
		{"the first beat of another one", []impl.Beat{beat(2, 4, 4), beat(1, 0, 2), beat(0, 0, 8)}, 7, fire(8, 2)},
		{"the last beat", []impl.Beat{beat(2, 9, 9), beat(1, 8, 9), beat(0, 7, 9)}, 0, fire(7, 0)},
		{"one source twice", []impl.Beat{beat(1, 9, 9), beat(1, 8, 9)}, 9, fire(9, 1)},
		{"First TimeMax", []impl.Beat{beat(0, 9999, 1)}, 0, fire(9999, 0)},
		{"on TimeMax", []impl.Beat{beat(0, 0, 3)}, 9999, fire(9999, 0)},
		{"behind TimeMax", []impl.Beat{beat(0, 0, 2)}, 9999, fire(10000, 0)},
		{"far behind TimeMax", []impl.Beat{beat(0, 1, 9999)}, 2, fire(10000, 0)},
		{"as far behind TimeMax as can be", []impl.Beat{beat(2, 9998, 9999)}, 9999, fire(19997, 2)},
		{"behind TimeMax, the sooner one", []impl.Beat{beat(2, 9998, 9999), beat(1, 9990, 5000)}, 9999, fire(14990, 1)},
		{"behind TimeMax, the first of one time", []impl.Beat{beat(2, 9998, 7), beat(1, 9996, 9), beat(0, 0, 10005)}[:2], 9999, fire(10005, 2)},
	}
	for _, c := range cases {
		keepsClock(t, c.list, c.from, c.from)
		if got, ok := impl.ClockNext(c.list, c.from); !ok || got != c.want {
			t.Errorf("%s: %v %v, not %v", c.name, got, ok, c.want)
		}
	}
	for _, list := range [][]impl.Beat{nil, {}} {
		for _, from := range []int{0, 1, 9999} {
			if got, ok := impl.ClockNext(list, from); ok || got != (impl.Fire{}) {
				t.Errorf("no beats: %v", got)
			}
		}
	}
}

func TestP61TheFirstOfWhatComes(t *testing.T) {
	r := rand.New(rand.NewSource(61))
	near, far := 0, 0
	for range 3000 {
		list := someBeats(r)
		from, _ := someSpan(r, list)
		next, ok := impl.ClockNext(list, from)
		if ok != (len(list) > 0) {
			t.Fatalf("%v from %d on: %v", list, from, ok)
		}
		if !ok {
			continue
		}
		if next.At >= 9999 {
			far++
		} else if next.At-from < 40 {
			near++
			if due := impl.ClockDue(list, from, next.At+1); len(due) == 0 || due[0] != next || len(impl.ClockDue(list, from, next.At)) > 0 {
				t.Fatalf("%v from %d on: %v, and %v", list, from, next, due)
			}
		}
		// Nothing comes ahead of it, span by span.
		for at := from; at < min(9999, next.At); at += 40 {
			if due := impl.ClockDue(list, at, min(at+40, 9999, next.At)); len(due) > 0 {
				t.Fatalf("%v from %d on: %v, ahead of %v", list, from, due, next)
			}
		}
		if again, _ := impl.ClockNext(list, min(next.At, 9999)); next.At <= 9999 && again != next || next.At < from {
			t.Fatalf("%v from %d on: %v, then %v", list, from, next, again)
		}
	}
	if near < 500 || far < 100 {
		t.Errorf("%d near, %d far", near, far)
	}
}

// keepsClockRun asks ClockRun for what the document asks for, and that nothing is written or shared.
func keepsClockRun(t *testing.T, w impl.World, list []impl.Beat, from, to, rounds int) (impl.World, []impl.Fire) {
	t.Helper()
	hw, hl := hand(w), hand(list)
	got, missed := impl.ClockRun(hw.now, hl.now, from, to, rounds)
	want, wantMissed := wantClockRun(w, list, from, to, rounds)
	if !same(got, want) || !same(missed, wantMissed) {
		t.Fatalf("%v in %d..%d, %d: %v %v, not %v %v, from %v\n%s", list, from, to, rounds, missed, got, wantMissed, want, w, wantNetText(w.Net))
	}
	if !hw.isUntouched() || !hl.isUntouched() || !areApart(hw.now, hl.now, got, missed) {
		t.Fatalf("%v: an argument was written, or memory is shared", list)
	}
	if !impl.WorldOk(got) || wantSafe(w) && !impl.WorldSafe(got) {
		t.Fatalf("%v is not as promised", got)
	}
	return got, missed
}

// pushed is how many pushes were done.
func pushed(w impl.World) int {
	count := 0
	for _, d := range w.Log {
		count += bit(d.Kind == impl.DoPush)
	}
	return count
}

func TestP62BeatsThatHaveRoomAndNot(t *testing.T) {
	n := mustNet(twinText)
	each := []impl.Beat{beat(0, 3, 1)}
	w, missed := keepsClockRun(t, impl.WorldNew(n), each, 0, 8, 0)
	if !same(w.Recvs[2], receiver(3, nil, nil, nil)) || !same(missed, []impl.Fire{fire(6, 0), fire(7, 0)}) || len(w.Log) != 3 {
		t.Error("without rounds", w, missed)
	}
	// Three rounds are behind each beat: by the first one the net tells two, by both of them four.
	told := []impl.Said{said(0, 1), said(0, 21), said(0, 322), said(0, 4342)}
	for to, size := range map[int]int{3: 0, 4: 2, 33: 2, 34: 4, 40: 4} {
		w, missed = keepsClockRun(t, impl.WorldNew(n), []impl.Beat{beat(0, 3, 30)}, 0, to, 3)
		if len(missed) > 0 || !same(w.Out, told[:size]) || pushed(w) != size/2 {
			t.Error("with rounds", to, w, missed)
		}
	}
	// A source that the net has not, and one that it has.
	w, missed = keepsClockRun(t, impl.WorldNew(n), []impl.Beat{beat(1, 0, 1), beat(0, 1, 1), beat(2, 0, 2)}, 0, 3, 1)
	if want := []impl.Fire{fire(0, 1), fire(0, 2), fire(1, 1), fire(2, 1), fire(2, 2)}; !same(missed, want) || pushed(w) != 2 {
		t.Error("sources", w, missed)
	}
	// Values are zeros, as many as the event brings.
	w, missed = keepsClockRun(t, impl.WorldNew(mustNet(halfText)), []impl.Beat{beat(1, 0, 1), beat(0, 0, 1)}, 0, 2, 0)
	if !same(w.Log, []impl.Do{push(1, 0, 0), push(0), push(1, 0, 0), push(0)}) || !same(w.Recvs[5], receiver(2, []int{0, 0}, []int{0, 0})) || len(missed) > 0 {
		t.Error("values", w, missed)
	}
	// Nothing comes: all stays, also what is under way, and what was done.
	full := fullWorld()
	for _, list := range [][]impl.Beat{nil, {beat(0, 40, 1)}, {beat(1, 0, 41)}} {
		if w, missed = keepsClockRun(t, full, list, 1, 40, 3); !same(w, full) || len(missed) > 0 {
			t.Error("nothing comes", list, missed)
		}
	}
	if w, missed = keepsClockRun(t, full, each, 9, 9, 3); !same(w, full) || len(missed) > 0 {
		t.Error("an empty span", w, missed)
	}
	// What cannot be pushed brings no rounds.
	if w, missed = keepsClockRun(t, full, []impl.Beat{beat(2, 9, 1)}, 9, 12, 3); !same(w, full) || len(missed) != 3 {
		t.Error("no rounds", w, missed)
	}
	if w, missed = keepsClockRun(t, impl.WorldNew(mustNet("block a\nstate b\nuse c a 0\n")), []impl.Beat{beat(0, 0, 20)}, 0, 40, 3); len(missed) != 2 || len(w.Log) > 0 {
		t.Error("no sources", w, missed)
	}
}

// TestP62UpToLimits has no number left on the way of a source, or all done that can be, while beats come.
func TestP62UpToLimits(t *testing.T) {
	n := mustNet(twinText)
	for num := 9995; num <= 9999; num++ {
		w := impl.WorldNew(n)
		w.Recvs[2] = receiver(num)
		if got, missed := keepsClockRun(t, w, []impl.Beat{beat(0, 0, 9)}, 0, 40, 3); len(missed) != max(0, 5-(9999-num)) || got.Recvs[2].Next != 9999 {
			t.Errorf("%d: %v %v", num, got, missed)
		}
	}
	for size := 490; size <= 500; size++ {
		w := impl.WorldNew(n)
		w.Log = slices.Repeat([]impl.Do{take(1)}, size)
		for rounds := range 4 {
			if got, missed := keepsClockRun(t, w, []impl.Beat{beat(0, 0, 9)}, 0, 40, rounds); len(missed)+pushed(got) != 5 || len(got.Log) > 500 || size == 500 && len(missed) != 5 {
				t.Errorf("%d, %d: %v %v", size, rounds, got, missed)
			}
		}
	}
	most := []impl.Beat{beat(0, 0, 1), beat(0, 0, 1), beat(0, 0, 1)}
	if got, missed := keepsClockRun(t, impl.WorldNew(tripleNet(40, 0)), most, 0, 40, 3); pushed(got)+len(missed) != 120 || len(got.Log) != 500 {
		t.Errorf("%d were done, %d missed", len(got.Log), len(missed))
	}
}

func TestP62WhatIsNotOk(t *testing.T) {
	w := impl.WorldPlay(mustNet(twinText), []impl.Event{pushes(0)})
	list := []impl.Beat{beat(0, 0, 1)}
	for _, rounds := range []int{-1 << 63, -1 << 32, -1, 4, 5, 60, 1 << 32, 1<<63 - 1} {
		for _, list := range [][]impl.Beat{nil, list} {
			if got, missed := impl.ClockRun(w, list, 0, 2, rounds); !same(got, impl.World{}) || len(missed) > 0 {
				t.Errorf("%d: %v %v", rounds, got, missed)
			}
		}
	}
	for rounds := range 4 {
		if got, missed := keepsClockRun(t, w, list, 0, 2, rounds); pushed(got) != 3 || len(missed) > 0 {
			t.Errorf("%d: %v %v", rounds, got, missed)
		}
	}
	for _, turn := range []func(w *impl.World){
		func(w *impl.World) { *w = impl.World{} },
		func(w *impl.World) { w.Net.Uses[1].Node = 3 },
		func(w *impl.World) { w.Sends = w.Sends[:1] },
		func(w *impl.World) { w.Radio = []string{strings.Repeat("1", 81)} },
		func(w *impl.World) { w.Recvs[0] = receiver(10000) },
	} {
		x := copyOf(w)
		turn(&x)
		if got, missed := impl.ClockRun(x, list, 0, 2, 1); !same(got, impl.World{}) || len(missed) > 0 {
			t.Errorf("%v %v, of %v", got, missed, x)
		}
	}
}

func TestP62AllComeOrAreTold(t *testing.T) {
	r := rand.New(rand.NewSource(62))
	here, gone := 0, 0
	for i, n := range slices.Concat(wiredNets(r, 120), livelyNets(r, 80)) {
		_, w := someStory(r, n, r.Intn(80))
		if i%4 == 0 {
			w = someWorld(r, n)
		}
		list := someBeats(r)
		from, to := someSpan(r, list)
		got, missed := keepsClockRun(t, w, list, from, to, r.Intn(4))
		due := impl.ClockDue(list, from, to)
		if pushed(got)-pushed(w)+len(missed) != len(due) {
			t.Fatalf("%d pushed, %v missed, of %v", pushed(got)-pushed(w), missed, due)
		}
		here += len(due) - len(missed)
		gone += len(missed)
	}
	if here < 200 || gone < 200 {
		t.Errorf("%d pushed, %d missed", here, gone)
	}
}
