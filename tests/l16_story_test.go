package tests

import (
	"math/rand"
	"slices"
	"strings"
	"testing"

	"loop.example/telltale/impl"
)

// allKinds is an event of each kind, pushes with values and without, and what stands in their lines.
func allKinds() ([]impl.Event, []string) {
	return []impl.Event{
		pushes(0), pushes(1, 5, lowest), pushes(999999, 0, -1, highest), pushes(2, 0), takes(6), ticks(0), brings(39), keeps(1), loses(10),
		spoils(2, 7), spoils(0, 0), spoils(999999, 999999), saves(2), falls(3), falls(999999),
	}, []string{
		"push 0", "push 1 5,-2147483648", "push 999999 0,-1,2147483647", "push 2 0", "take 6", "tick 0", "bring 39", "keep 1", "lose 10",
		"spoil 2 7", "spoil 0 0", "spoil 999999 999999", "save 2", "fall 3", "fall 999999",
	}
}

func TestP71TextsOfEvents(t *testing.T) {
	list, lines := allKinds()
	for i, e := range list {
		if s := impl.EventPut(e); s != lines[i] || !keepsEvent(t, e) {
			t.Errorf("%v: %q, not %q", e, s, lines[i])
		}
		if got, ok := impl.EventGet(lines[i]); !ok || !same(got, e) || !keepsEventText(t, lines[i]) {
			t.Errorf("%q: %v %v, not %v", lines[i], ok, got, e)
		}
	}
	if s := impl.EventPut(impl.Event{Kind: impl.WorldTake, At: 3, Vals: []int{}}); s != "take 3" {
		t.Errorf("empty values: %q", s)
	}
	if s := impl.EventPut(impl.Event{Kind: impl.WorldPush, At: 3, Vals: []int{}}); s != "push 3" {
		t.Errorf("empty values of a push: %q", s)
	}
}

// TestP71EventsWithoutTexts has events of which one thing alone keeps them from having a text.
func TestP71EventsWithoutTexts(t *testing.T) {
	cases := map[string]impl.Event{
		"nothing":                     {},
		"kind 0":                      {At: 1},
		"kind -1":                     {Kind: -1},
		"kind 10":                     {Kind: 10},
		"a kind beyond 32 bits":       {Kind: 1<<32 + 1},
		"the least kind":              {Kind: -1 << 63},
		"the greatest kind":           {Kind: 1<<63 - 1},
		"a place below 0":             takes(-1),
		"a push below 0":              pushes(-1, 1),
		"a spoil below 0":             spoils(-1, 0),
		"a place too great":           falls(1000000),
		"a push too great":            pushes(1000000),
		"a spoil too great":           spoils(1000000, 1),
		"a place beyond 32 bits":      saves(1 << 32),
		"the least place":             ticks(-1 << 63),
		"the greatest place":          ticks(1<<63 - 1),
		"a number below 0":            spoils(0, -1),
		"a number too great":          spoils(0, 1000000),
		"a number beyond 32 bits":     spoils(0, 1<<32+1),
		"a take with a number":        {Kind: impl.WorldTake, Num: 1},
		"a push with a number":        {Kind: impl.WorldPush, Num: 1, Vals: []int{1}},
		"a fall with a number":        {Kind: impl.PlantFall, Num: -1},
		"a keep with a number":        {Kind: impl.WorldKeep, Num: 999999},
		"a take with a value":         {Kind: impl.WorldTake, Vals: []int{0}},
		"a spoil with a value":        {Kind: impl.WorldSpoil, Num: 3, Vals: []int{3}},
		"a save with values":          {Kind: impl.PlantSave, Vals: []int{1, 2, 3}},
		"four values":                 pushes(0, 1, 2, 3, 4),
		"a hundred thousand values":   pushes(0, make([]int, 100000)...),
		"a value too great":           pushes(0, highest+1),
		"a value too small":           pushes(0, 1, lowest-1),
		"a last value too great":      pushes(0, 1, 2, 1<<32),
		"a value that wraps to 0":     pushes(0, 1<<63-1),
		"values without a known kind": {Kind: 10, Vals: []int{1}},
	}
	for name, e := range cases {
		if s := impl.EventPut(e); s != "" || keepsEvent(t, e) || impl.StoryPut([]impl.Event{e}) != "" {
			t.Errorf("%s: %q", name, s)
		}
	}
}

func TestP71EventsAreReadBack(t *testing.T) {
	edges := []int{-1 << 63, -1 << 32, -1000000, -1, 0, 1, 9, 10, 11, 99999, 100000, 999998, 999999, 1000000, 1000001, 1 << 32, 1<<32 + 1, 1<<63 - 1}
	written := map[int]int{}
	for kind := -2; kind <= 12; kind++ {
		for _, at := range edges {
			for _, num := range edges {
				for size := 0; size <= 5; size++ {
					e := impl.Event{Kind: kind, At: at, Num: num, Vals: make([]int, size)}
					written[kind] += bit(keepsEvent(t, e))
				}
			}
		}
	}
	if !same([]int{written[0], written[1], written[2], written[7], written[8], written[9], written[10], len(written)}, []int{0, 36, 9, 81, 9, 9, 0, 15}) {
		t.Error(written)
	}
	for at := range 1000000 {
		if at%997 == 0 || at < 1000 || at > 999000 {
			keepsEvent(t, pushes(at, at, -at))
			keepsEvent(t, spoils(at, 999999-at))
			keepsEvent(t, falls(at))
		}
	}
	r := rand.New(rand.NewSource(71))
	for range 20000 {
		e := someWritten(r)
		if !keepsEvent(t, e) {
			t.Fatalf("%v has no text", e)
		}
		keepsEvent(t, wrongEvent(r, e))
	}
}

func TestP71ValuesOfEvents(t *testing.T) {
	edges := []int{lowest, lowest + 1, -10, -1, 0, 1, 9, 10, 999999, 1000000, highest - 1, highest}
	beyond := []int{lowest - 1, highest + 1, 1 << 32, -1 << 32, 1<<32 + 5, -1 << 63, 1<<63 - 1}
	for _, x := range edges {
		for _, y := range slices.Concat(edges, beyond) {
			for size := 1; size <= 4; size++ {
				for at := range size {
					vals := slices.Repeat([]int{x}, size)
					vals[at] = y
					if got := keepsEvent(t, pushes(3, vals...)); got != (size < 4 && !slices.Contains(beyond, y)) {
						t.Errorf("%v: %v", vals, got)
					}
				}
			}
		}
	}
}

// TestP71NothingIsShared asks for new values each time that a text is read.
func TestP71NothingIsShared(t *testing.T) {
	s := impl.EventPut(pushes(4, 1, 2, 3))
	a, _ := impl.EventGet(s)
	b, _ := impl.EventGet(s)
	if !areApart(a, b) {
		t.Error("memory is shared")
	}
	a.Vals[0] = 7
	if c, ok := impl.EventGet(s); !ok || !same(b, c) || !same(c, pushes(4, 1, 2, 3)) {
		t.Error(b, c)
	}
}

// TestP72TextsThatAreNoEvent has texts that one thing alone keeps from being an event.
func TestP72TextsThatAreNoEvent(t *testing.T) {
	wrong := []string{
		// Words that are none, in capitals, cut, or with more behind.
		"", " ", "1", "jump 1", "Push 1", "PUSH 1", "Take 1", "FALL 1", "spoiL 1 2", "pus 1", "p 1", "ush 1", "pushs 1", "takes 1", "push1", "push1 1", "falls 1", "fal 1", "save1", "calm 1", "done", "safe", "told", "state 1", "go", "1 1", "- 1", "pushtake 1", "push take 1", "ſave 1", "saｖe 1", "push\x00 1", "\x00push 1", "\xffpush 1",
		// No number, or one too many.
		"push", "take", "tick", "bring", "keep", "lose", "spoil", "save", "fall", "take 1 5", "tick 1 1", "bring 0 0", "keep 1 1", "lose 1 1", "save 1 1", "fall 1 1", "fall 0 0", "spoil 2", "spoil 2 ", "spoil 2 7 7", "spoil 2 7 0", "spoil 0 0 0", "push 1 2 3", "push 1 2,3 4", "take 1,2", "take 1,", "spoil 1,2", "spoil 1 2,3", "push 1,2", "push 1,2 3", "push -", "take -", "spoil - -",
		// Values of a kind that has none, or too many.
		"take 1 -", "push 1 -", "push 1 1,2,3,4", "push 1 1,2,3,4,5", "push 1 0,0,0,0", "spoil 1 -", "spoil 1 2 -", "fall 1 -", "save 1 1,2", "tick 1 0",
		// Numbers beyond their limits.
		"take 1000000", "push 1000000", "push 1000000 1", "spoil 1000000 1", "spoil 1 1000000", "fall 9999999", "take 4294967296", "take 4294967297", "take 18446744073709551616", "take 18446744073709551617", "spoil 1 18446744073709551617", "take 9223372036854775807", "take 9223372036854775808", "take 99999999999999999999", "take -9223372036854775809", "push 1 2147483648", "push 1 -2147483649", "push 1 4294967296", "push 1 4294967297", "push 1 1,9223372036854775807", "push 1 18446744073709551617", "push 1 99999999999999999999", "push 1 5,-99999999999999999999,5",
		// Signs, and noughts ahead.
		"take -1", "take -0", "take +1", "take +0", "take 01", "take 00", "take 000001", "push 01", "push 00 1", "push -1 1", "push +1 1", "push 1 -0", "push 1 +5", "push 1 05", "push 1 -05", "push 1 00", "push 1 1,02", "push 1 1,-0", "push 1 1,+0", "push 1 --5", "push 1 5-", "push 1 1,-", "push 1 -,1", "push 1 --", "push 1 +", "push 1 2147483647-", "spoil 02 7", "spoil 2 07", "spoil -2 7", "spoil 2 -7", "spoil 2 -0", "spoil +2 7", "spoil 2 +7", "fall -1", "save -0", "fall 03",
		// Blanks too many, or too few.
		" take 1", "take  1", "take 1 ", "take 1  ", "  take 1", "push 1 ", "push  1", "push 1  5", " push 1 5", "push 1 5 ", "push 1 5, 6", "push 1 5 ,6", "push 1 5 6", "push1 5", "push 15,", "spoil  2 7", "spoil 2  7", "spoil 2 7 ", " spoil 2 7", "spoil2 7", "spoil 27", "spoil27", "take ", "push ", "spoil ", "spoil  ", "push  5", "spoil  7", "take\t1", "take\u00a01", "push 1\t5", "spoil 2\t7",
		// Lines.
		"take 1\n", "\ntake 1", "take\n1", "take 1\r", "take 1\r\n", "push 1 5\n", "push 1 5\r", "spoil 2 7\n", "take 1\ntake 1", "push 1\n5", "\n", "\r\n", "take 1\x00", "take 1\v",
		// Commas without numbers.
		"push 1 ,", "push 1 ,5", "push 1 5,", "push 1 1,,2", "push 1 ,,", "push 1 1,2,3,", "push 1 ,1,2,3", "push 1 -,", "push 1 -,-", "push ,", "push , 1", "push ,1", "take ,",
		// Other ways to write numbers.
		"take 0x1", "take 1_0", "take 1.0", "take 1e1", "take a", "take 1a", "take a1", "take ٥", "take １", "take −1", "take \xff", "push 1 a", "push 1 1;2", "push 1 1_0", "push 1 0x5", "push 1 1e1", "push 1 ٥", "spoil 1 a", "spoil a 1", "spoil 1 0b1", "take '1'", "take one", "take 1/1", "take (1)", "push 1 1+1", "take ²",
	}
	for _, s := range wrong {
		noEvent(t, s)
		noStory(t, s+"\r\n")
		if !strings.Contains(s, "\n") {
			noStory(t, s+"\n")
			noStory(t, "push 0\n"+s+"\nfall 0\n")
		}
	}
	for _, s := range []string{strings.Repeat("push 1 ", 200000), "push 1 " + strings.Repeat("1,", 300000) + "1", "push 1 " + strings.Repeat("0", 300000) + "1", "take " + strings.Repeat("9", 300000), "take 1" + strings.Repeat(" ", 300000), strings.Repeat("p", 300000) + "ush 1", "spoil" + strings.Repeat(" 1", 300000)} {
		noEvent(t, s)
		noStory(t, s+"\n")
	}
}

// TestP72OneByteIsAnotherOne changes, takes out and puts in each byte at each place: what comes of it is an event just if it is written as one.
func TestP72OneByteIsAnotherOne(t *testing.T) {
	_, lines := allKinds()
	read := map[bool]int{}
	for _, s := range lines {
		for at := range len(s) + 1 {
			for c := range 256 {
				read[keepsEventText(t, s[:at]+string([]byte{byte(c)})+s[at:])]++
				if at < len(s) {
					read[keepsEventText(t, s[:at]+string([]byte{byte(c)})+s[at+1:])]++
				}
			}
			noEvent(t, s[at:]+" ")
			if at < len(s) {
				read[keepsEventText(t, s[:at]+s[at+1:])]++
			}
			read[keepsEventText(t, s[:at])]++
		}
	}
	if read[true] < 500 || read[false] < 50000 {
		t.Error(read)
	}
}

func TestP72WhatIsReadIsWrittenSo(t *testing.T) {
	r := rand.New(rand.NewSource(72))
	read := map[bool]int{}
	for range 60000 {
		s := wantEventText(someWritten(r))
		for _, more := range []string{s + " ", " " + s, s + "\n", s + "\r", s + ",", s + " -", s + s} {
			noEvent(t, more)
		}
		read[keepsEventText(t, spoilt(r, s))]++
	}
	if read[true] < 5000 || read[false] < 5000 {
		t.Error(read)
	}
}

func TestP73TextsOfStories(t *testing.T) {
	list, lines := allKinds()
	want := strings.Join(lines, "\n") + "\n"
	if s := impl.StoryPut(list); s != want || !keepsStory(t, list) {
		t.Errorf("%q, not %q", s, want)
	}
	if got, ok := impl.StoryGet(want); !ok || !same(got, list) || !keepsStoryText(t, want) {
		t.Errorf("%v %v, not %v", ok, got, list)
	}
	for _, none := range [][]impl.Event{nil, {}} {
		if s := impl.StoryPut(none); s != "" || !keepsStory(t, none) {
			t.Errorf("no events: %q", s)
		}
	}
	if got, ok := impl.StoryGet(""); !ok || len(got) > 0 || !keepsStoryText(t, "") {
		t.Error("the empty story", ok, got)
	}
}

// TestP73StoriesOfAnySize meets the limit of a story exactly, and goes beyond it.
func TestP73StoriesOfAnySize(t *testing.T) {
	if impl.PlayMax != 80 {
		t.Error("a limit is another one")
	}
	r := rand.New(rand.NewSource(73))
	for size := range 90 {
		for _, list := range [][]impl.Event{someWrittens(r, size), make([]impl.Event, size), slices.Repeat([]impl.Event{pushes(999999, lowest, lowest, lowest)}, size), slices.Repeat([]impl.Event{spoils(0, 0)}, size)} {
			isNone := size > 0 && list[0].Kind == 0
			if got := keepsStory(t, list); got != (size <= 80 && !isNone) {
				t.Errorf("%d: %v", size, got)
			}
		}
	}
	for _, size := range []int{81, 160, 161, 1 << 8, 1<<16 + 1, 1000000} {
		if s := impl.StoryPut(slices.Repeat([]impl.Event{saves(1)}, size)); s != "" {
			t.Errorf("%d: %q", size, s)
		}
	}
}

// TestP73OneEventWithoutAText has such a one at each place of a story.
func TestP73OneEventWithoutAText(t *testing.T) {
	r := rand.New(rand.NewSource(74))
	for _, size := range []int{1, 2, 3, 79, 80} {
		list := someWrittens(r, size)
		for at := range size {
			for _, wrong := range []impl.Event{{}, {Kind: 10}, takes(-1), falls(1000000), {Kind: impl.WorldTake, Vals: []int{1}}, pushes(0, 1, 2, 3, 4), {Kind: impl.PlantSave, Num: 1}} {
				more := slices.Clone(list)
				more[at] = wrong
				if keepsStory(t, more) {
					t.Errorf("%v at %d has a text", wrong, at)
				}
			}
		}
	}
}

func TestP73StoriesAreReadBack(t *testing.T) {
	r := rand.New(rand.NewSource(75))
	seen := map[bool]int{}
	for range 3000 {
		list := someWrittens(r, []int{0, 1, 2, 3, r.Intn(80), 79, 80, 81}[r.Intn(8)])
		if !keepsStory(t, list) && len(list) <= 80 {
			t.Fatalf("%v has no text", list)
		}
		if len(list) > 0 {
			at := r.Intn(len(list))
			list[at] = wrongEvent(r, list[at])
		}
		seen[keepsStory(t, list)]++
	}
	if seen[true] < 300 || seen[false] < 300 {
		t.Error(seen)
	}
}

// TestP74TextsThatAreNoStory has stories that one thing at their ends or between their lines alone keeps from being one.
func TestP74TextsThatAreNoStory(t *testing.T) {
	list, lines := allKinds()
	s := impl.StoryPut(list)
	wrong := []string{
		"push 0", "\n", "\n\n", " ", " \n", "\r\n", "-\n", "\x00", "0\n", "what\n", "go\n",
		"push 0\n\n", "\npush 0\n", "push 0\n\nfall 0\n", "push 0 \n", " push 0\n", "push 0\n ", "push 0\n \n", "push 0\r\n", "push 0\n\r", "push 0\r", "push 0\rfall 0\n", "push 0\n\r\nfall 0\n", "push 0\v\n", "push 0\u2028fall 0\n", "push 0\nfall 0", "push 0\nfall 0\r\n", "push 0\nfall 0 \n", "push 0;fall 0\n", "push 0 fall 0\n", "push 0,fall 0\n", "push 0fall 0\n", "push 0\\nfall 0\n", "push 0\n\x00", "push 0\n0", "push 0\n-", "push\n0\n", "push 0\n5\n", "push 0\n 5\n",
		s[:len(s)-1], s + "\n", "\n" + s, s + " ", " " + s, s + "\x00", s + "push", s + "push 0", "push 0" + s[:len(s)-1], strings.ReplaceAll(s, "\n", "\r\n"), strings.ReplaceAll(s, "\n", "\n\n"), strings.ReplaceAll(s, "\n", " "), strings.ReplaceAll(s, "\n", " \n"), strings.ReplaceAll(s, "\n", "\n "), strings.ToUpper(s), strings.Join(lines, ""), "go\n" + s, s + "go\n", s + "calm 1\n", s + "done\n",
	}
	for _, x := range wrong {
		noStory(t, x)
	}
	for at := range lines {
		for _, x := range []string{"", " ", "what", lines[at] + " ", " " + lines[at], lines[at] + "\r", lines[at] + "\n"} {
			more := slices.Clone(lines)
			more[at] = x
			noStory(t, strings.Join(more, "\n")+"\n")
		}
	}
}

// TestP74LinesUpToTheirLimit has texts of as many lines as a story can have, and of more.
func TestP74LinesUpToTheirLimit(t *testing.T) {
	_, lines := allKinds()
	for _, line := range lines {
		for _, size := range []int{1, 2, 79, 80, 81, 82, 160, 256} {
			s := strings.Repeat(line+"\n", size)
			if keepsStoryText(t, s) != (size <= 80) {
				t.Errorf("%q %d times", line, size)
			}
			noStory(t, s+line)
			noStory(t, s+"what\n")
			noStory(t, s+"\n")
		}
		noStory(t, strings.Repeat(line+"\n", 1000000))
	}
}

func TestP74WhatIsReadIsWrittenSo(t *testing.T) {
	r := rand.New(rand.NewSource(76))
	read := map[bool]int{}
	for range 20000 {
		s := wantStoryText(someWrittens(r, []int{1, 2, 3, 1 + r.Intn(80), 79, 80}[r.Intn(6)]))
		if !keepsStoryText(t, s) {
			t.Fatalf("%q is no story", s)
		}
		read[keepsStoryText(t, spoilt(r, s))]++
	}
	if read[true] < 1000 || read[false] < 1000 {
		t.Error(read)
	}
}

func TestP75AStoryBehindAnother(t *testing.T) {
	r := rand.New(rand.NewSource(77))
	for _, sizes := range [][3]int{{0, 0, 1}, {0, 1, 1}, {1, 0, 1}, {1, 1, 1}, {2, 3, 1}, {0, 80, 1}, {80, 0, 1}, {1, 79, 1}, {79, 1, 1}, {40, 40, 1}, {33, 47, 1}, {80, 1, 0}, {1, 80, 0}, {41, 40, 0}, {40, 41, 0}, {79, 2, 0}, {80, 80, 0}} {
		for range 20 {
			first, then := someWrittens(r, sizes[0]), someWrittens(r, sizes[1])
			a, b := impl.StoryPut(first), impl.StoryPut(then)
			got, ok := impl.StoryGet(a + b)
			if ok != (sizes[2] == 1) || !ok && len(got) > 0 || keepsStoryText(t, a+b) != ok {
				t.Fatalf("%v: %v %v", sizes, ok, got)
			}
			if both := slices.Concat(first, then); ok && (!same(got, both) || impl.StoryPut(both) != a+b) {
				t.Fatalf("%v: %v, not %v", sizes, got, both)
			}
		}
	}
}

// TestP75AStoryInTwo cuts a story at each place: both parts are stories just if that is at the end of a line, and are the events then.
func TestP75AStoryInTwo(t *testing.T) {
	list, _ := allKinds()
	s := impl.StoryPut(list)
	cuts := 0
	for at := range len(s) + 1 {
		first, ok := impl.StoryGet(s[:at])
		if isEnd := at == 0 || s[at-1] == '\n'; ok != isEnd || keepsStoryText(t, s[:at]) != isEnd {
			t.Fatalf("%q: %v", s[:at], ok)
		}
		if then, thenOk := impl.StoryGet(s[at:]); ok && (!thenOk || !same(slices.Concat(first, then), list)) {
			t.Fatalf("%q: %v %v", s[at:], thenOk, then)
		}
		cuts += bit(ok)
	}
	if cuts != len(list)+1 {
		t.Error(cuts)
	}
}

// TestP75WhatIsNoStory stays none behind a story, or ahead of one.
func TestP75WhatIsNoStory(t *testing.T) {
	for _, s := range []string{"what\n", "\n", "push\n", "push 01\n", " push 0\n", "take 1 5\n", "push 0 \n", "push 0\r\n"} {
		noStory(t, s+"push 0\n")
		noStory(t, "push 0\n"+s)
		noStory(t, s+s)
	}
}

// keepsRun asks StoryRun for what PlantPlay is, and that nothing is written or shared.
func keepsRun(t *testing.T, n impl.Net, s string) (impl.Plant, bool) {
	t.Helper()
	h := hand(n)
	got, ok := impl.StoryRun(h.now, s)
	list, isStory := wantStoryRead(s)
	want := impl.Plant{}
	if isStory {
		want = impl.PlantPlay(n, list)
	}
	if ok != (isStory && wantNetCheck(n) == 0) || !same(got, want) || ok && !impl.PlantSafe(got) {
		t.Fatalf("%q: %v %v, not %v\n%s", s, ok, got, want, wantNetText(n))
	}
	if !h.isUntouched() || !areApart(h.now, got) {
		t.Fatal("an argument was written, or memory is shared")
	}
	return got, ok
}

// TestP76WhatAStoryComesTo has one that is done by hand.
func TestP76WhatAStoryComesTo(t *testing.T) {
	n := mustNet(twinText)
	ahead := "push 0\ntake 2\ntick 0\nspoil 1 5\nbring 0\nbring 0\ntick 0\nlose 0\nkeep 0\nbring 0\ntake 0\n"
	cases := []struct {
		name, behind string
		log          int
		x            int
	}{
		{"as it is", "", 3, 1},
		{"the first falls", "fall 0\n", 3, 1},
		{"the other falls", "fall 1\n", 2, 0},
		{"the other is saved, and falls", "save 1\nfall 1\n", 3, 1},
		{"it goes on, and falls", "save 1\ntake 0\nfall 1\nfall 2\n", 3, 1},
		{"it goes on", "save 1\ntake 0\nfall 2\n", 4, 1},
		{"what cannot be", "take 1\nfall 3\nspoil 999999 999999\npush 1 5\ntick 4\n", 3, 1},
	}
	for _, c := range cases {
		p, ok := keepsRun(t, n, ahead+c.behind)
		if !ok || len(p.World.Log) != c.log || p.World.Insts[1].Vals[0] != c.x || !same(p.World.Sends[0], sender(0, lists(1, 1)...)) {
			t.Errorf("%s: %v %v", c.name, ok, p)
		}
		calm := impl.WorldCalm(p.World, 8)
		if !impl.WorldDone(calm) || !same(calm.Out, []impl.Said{said(0, 1), said(0, 21)}) {
			t.Errorf("%s: its end: %v", c.name, calm)
		}
	}
	if p, ok := keepsRun(t, n, ""); !ok || !same(p, impl.PlantNew(n)) {
		t.Error("the empty story", ok, p)
	}
}

// TestP76WhatCannotBePlayed has nets that are not ok, and texts that are no story.
func TestP76WhatCannotBePlayed(t *testing.T) {
	n := mustNet(twinText)
	texts := []string{"push 0", "what\n", "\n", "push 0\n\n", "push 0 \n", "push 00\n", "take 2 5\n", "push 0\ntake 2\ntick 0\nfall\n", "push 0\r\n", strings.Repeat("push 0\n", 81), strings.Repeat("tick 3\n", 81)}
	for _, s := range texts {
		if p, ok := keepsRun(t, n, s); ok || !same(p, impl.Plant{}) {
			t.Errorf("%q: %v %v", s, ok, p)
		}
	}
	if p, ok := keepsRun(t, n, strings.Repeat("push 0\n", 80)); !ok || len(p.World.Log) != 3 {
		t.Error("80 lines", ok, p)
	}
	wrong := copyOf(n)
	wrong.Uses[2].Node = 3
	for _, bad := range []impl.Net{{}, wrong, {Blocks: n.Blocks}, {Blocks: n.Blocks, Uses: n.Uses, Wires: slices.Repeat(n.Wires, 2)}} {
		for _, s := range append(texts, "", "push 0\n", "fall 0\n") {
			if p, ok := keepsRun(t, bad, s); ok || !same(p, impl.Plant{}) {
				t.Errorf("%q: %v %v", s, ok, p)
			}
		}
	}
}

func TestP76AsPromised(t *testing.T) {
	t.Parallel()
	r := rand.New(rand.NewSource(78))
	kinds, done, fell := map[int]int{}, 0, 0
	for _, n := range slices.Concat(wiredNets(r, 60), livelyNets(r, 80)) {
		list, want := someWrittenStory(r, n, []int{0, 1, 40, r.Intn(81), 79, 80}[r.Intn(6)])
		p, ok := keepsRun(t, n, wantStoryText(list))
		if !ok || !same(p, want) || !wantPlantSafe(p) {
			t.Fatalf("%v %v, not %v\n%v\n%s", ok, p, want, list, wantNetText(n))
		}
		for _, half := range []int{0, len(list) / 2, r.Intn(len(list) + 1), len(list)} {
			x, halfOk := keepsRun(t, n, wantStoryText(list[:half]))
			for _, e := range list[half:] {
				next, can := impl.PlantDo(x, e)
				kinds[e.Kind*bit(can)]++
				fell += bit(len(next.World.Log) < len(x.World.Log))
				x = next
			}
			if !halfOk || !same(x, p) {
				t.Fatalf("%v %v behind %d, not %v\n%v\n%s", halfOk, x, half, p, list, wantNetText(n))
			}
		}
		done += len(p.World.Log)
	}
	for kind := range 10 {
		if kinds[kind] < 50 {
			t.Error(kinds)
		}
	}
	if done < 300 || fell < 100 {
		t.Errorf("%d done, %d fell", done, fell)
	}
}

// TestP76OnAllNodes plays one story with each block on each node, and lets each node fall at each place of it.
func TestP76OnAllNodes(t *testing.T) {
	s := wantStoryText(mishaps())
	n := mustNet(twinText)
	for place := range 27 {
		n.Uses[0].Node, n.Uses[1].Node, n.Uses[2].Node = place%3, place/3%3, place/9
		lines := strings.SplitAfter(s, "\n")
		for at := range lines {
			more := []string{"fall 0\n", "fall 1\n", "save 2\nfall 2\n", "save 1\n"}[(at+place)%4]
			p, ok := keepsRun(t, n, strings.Join(lines[:at], "")+more+strings.Join(lines[at:], ""))
			one := impl.OneRun(n, p.World.Log)
			if !ok || !same(p.World.Insts, one.Insts) || !same(p.World.Out, one.Out) {
				t.Fatalf("%q at %d: %v, not %v", more, at, p, one)
			}
		}
	}
}
