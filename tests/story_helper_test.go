package tests

import (
	"fmt"
	"math/rand"
	"regexp"
	"slices"
	"strings"
	"testing"

	"loop.example/telltale/impl"
)

// valueForm is how a story writes a value; whether it has 32 bits, it does not tell.
const valueForm = `(?:0|-?[1-9][0-9]{0,9})`

var (
	placeEvent  = regexp.MustCompile(`\A(push|take|tick|bring|keep|lose|save|fall) ` + numForm + `\z`)
	valuesEvent = regexp.MustCompile(`\Apush ` + numForm + ` (` + valueForm + `(?:,` + valueForm + `){0,2})\z`)
	storyWords  = []string{"push", "take", "tick", "bring", "keep", "lose", "spoil", "save", "fall"}
)

// wantEventText is the text that the document asks for of an event, the empty one of what has none.
func wantEventText(e impl.Event) string {
	isPush, isSpoil := e.Kind == 1, e.Kind == 7
	wrongKind := e.Kind < 1 || e.Kind > 9 || !isSpoil && e.Num != 0 || !isPush && len(e.Vals) > 0
	if wrongKind || e.At < 0 || e.At > 999999 || e.Num < 0 || e.Num > 999999 || !isSmall(e.Vals) {
		return ""
	}
	text := fmt.Sprint(storyWords[e.Kind-1], " ", e.At)
	if isSpoil {
		text += fmt.Sprint(" ", e.Num)
	}
	if len(e.Vals) > 0 {
		text += " " + wantValues(e.Vals, "")
	}
	return text
}

// wantEventRead is the event that the document asks for of a text.
func wantEventRead(s string) (impl.Event, bool) {
	if x := spoilLine.FindStringSubmatch(s); x != nil {
		return spoils(mustNum(x[1]), mustNum(x[2])), true
	}
	if x := placeEvent.FindStringSubmatch(s); x != nil {
		return impl.Event{Kind: 1 + slices.Index(storyWords, x[1]), At: mustNum(x[2])}, true
	}
	if x := valuesEvent.FindStringSubmatch(s); x != nil && isSmall(mustNums(x[2])) {
		return pushes(mustNum(x[1]), mustNums(x[2])...), true
	}
	return impl.Event{}, false
}

// wantStoryText is the text that the document asks for of events.
func wantStoryText(list []impl.Event) string {
	text := ""
	for _, e := range list {
		line := wantEventText(e)
		if line == "" || len(list) > 80 {
			return ""
		}
		text += line + "\n"
	}
	return text
}

// wantStoryRead is the events that the document asks for of a text.
func wantStoryRead(s string) ([]impl.Event, bool) {
	lines := strings.SplitAfter(s, "\n")
	last := len(lines) - 1
	if lines[last] != "" || last > 80 {
		return nil, false
	}
	var list []impl.Event
	for _, line := range lines[:last] {
		e, ok := wantEventRead(strings.TrimSuffix(line, "\n"))
		if !ok {
			return nil, false
		}
		list = append(list, e)
	}
	return list, true
}

// keepsEvent asks for what the document asks for of an event, written and read, and says whether it has a text.
func keepsEvent(t *testing.T, e impl.Event) bool {
	t.Helper()
	h := hand(e)
	s, want := impl.EventPut(h.now), wantEventText(e)
	if s != want || !h.isUntouched() {
		t.Fatalf("%v: %q, not %q, or it was written", e, s, want)
	}
	if got, ok := impl.EventGet(s); ok != (s != "") || ok && !same(got, e) || !ok && !same(got, impl.Event{}) {
		t.Fatalf("%q: %v %v, not %v", s, ok, got, e)
	}
	return s != ""
}

// keepsEventText asks for what the document asks for of a text as an event, and says whether it is one.
func keepsEventText(t *testing.T, s string) bool {
	t.Helper()
	got, ok := impl.EventGet(s)
	if want, wantOk := wantEventRead(s); ok != wantOk || !same(got, want) {
		t.Fatalf("%q: %v %v, not %v %v", s, ok, got, wantOk, want)
	}
	if ok && impl.EventPut(got) != s {
		t.Fatalf("%q is written %q", s, impl.EventPut(got))
	}
	return ok
}

// noEvent asks that a text is no event.
func noEvent(t *testing.T, s string) {
	t.Helper()
	if e, ok := impl.EventGet(s); ok || !same(e, impl.Event{}) || keepsEventText(t, s) {
		t.Fatalf("%q: %v %v", s, ok, e)
	}
}

// keepsStory asks for what the document asks for of events, written and read, and says whether they have a text.
func keepsStory(t *testing.T, list []impl.Event) bool {
	t.Helper()
	h := hand(list)
	s, want := impl.StoryPut(h.now), wantStoryText(list)
	if s != want || !h.isUntouched() {
		t.Fatalf("%v: %q, not %q, or it was written", list, s, want)
	}
	if s == "" {
		return len(list) == 0
	}
	got, ok := impl.StoryGet(s)
	if !ok || !same(got, list) || !areApart(h.now, got) {
		t.Fatalf("%q: %v %v, not %v, or memory is shared", s, ok, got, list)
	}
	return true
}

// keepsStoryText asks for what the document asks for of a text as events, and says whether it is some.
func keepsStoryText(t *testing.T, s string) bool {
	t.Helper()
	got, ok := impl.StoryGet(s)
	if want, wantOk := wantStoryRead(s); ok != wantOk || !same(got, want) {
		t.Fatalf("%q: %v %v, not %v %v", s, ok, got, wantOk, want)
	}
	if !ok {
		return false
	}
	lines := ""
	for _, e := range got {
		lines += impl.EventPut(e) + "\n"
	}
	if lines != s || impl.StoryPut(got) != s || len(got) > impl.PlayMax || !areApart(got) {
		t.Fatalf("%q is written %q, by lines %q", s, impl.StoryPut(got), lines)
	}
	return true
}

// noStory asks that a text is no events.
func noStory(t *testing.T, s string) {
	t.Helper()
	if list, ok := impl.StoryGet(s); ok || len(list) > 0 || keepsStoryText(t, s) {
		t.Fatalf("%q: %v %v", s, ok, list)
	}
}

// someEventNum is a number of an event, often one at its limits.
func someEventNum(r *rand.Rand) int {
	return []int{0, 1, 2, 9, 10, 99999, 100000, 999998, 999999, r.Intn(1000000)}[r.Intn(10)]
}

// someWritten is any event that has a text.
func someWritten(r *rand.Rand) impl.Event {
	e := impl.Event{Kind: 1 + r.Intn(9), At: someEventNum(r)}
	switch e.Kind {
	case impl.WorldPush:
		e.Vals = some32s(r, r.Intn(4))
	case impl.WorldSpoil:
		e.Num = someEventNum(r)
	}
	return e
}

// someWrittens is so many events that have texts.
func someWrittens(r *rand.Rand, size int) []impl.Event {
	var list []impl.Event
	for range size {
		list = append(list, someWritten(r))
	}
	return list
}

// wrongEvent changes one thing of an event, mostly for the worse.
func wrongEvent(r *rand.Rand, e impl.Event) impl.Event {
	far := []int{-1, 0, 1, 7, 8, 9, 10, 999999, 1000000, 1 << 32, 1<<32 + 1, 1<<32 + 7, -1 << 63, 1<<63 - 1}[r.Intn(14)]
	switch r.Intn(4) {
	case 0:
		e.Kind = far
	case 1:
		e.At = far
	case 2:
		e.Num = far
	case 3:
		e.Vals = someValues(r, r.Intn(6))
	}
	return e
}

// someWrittenStory is so many events that have texts, and can mostly happen, one behind the other, from a new plant on, and the plant behind them. What has no text could not have happened, and what kinds do not ask for does not matter, so the plant is still the one behind them.
func someWrittenStory(r *rand.Rand, n impl.Net, size int) ([]impl.Event, impl.Plant) {
	list, p := somePlantStory(r, n, size)
	for i, e := range list {
		if e.Kind != impl.WorldPush {
			e.Vals = nil
		}
		if e.Kind != impl.WorldSpoil {
			e.Num = 0
		}
		if wantEventText(e) == "" {
			e = falls(3)
		}
		list[i] = e
	}
	return list, p
}
