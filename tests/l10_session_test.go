package tests

import (
	"fmt"
	"math/rand"
	"slices"
	"strings"
	"testing"

	"loop.example/telltale/impl"
)

// answeredAll asks all lines of a new world, and holds each answer against the one beside it.
func answeredAll(t *testing.T, n impl.Net, list [][2]string) {
	t.Helper()
	var asked []string
	for _, x := range list {
		asked = append(asked, x[0])
	}
	for i, got := range answersOf(t, n, asked) {
		if want := list[i][1]; got != want {
			t.Errorf("%d: %q: %q, not %q", i, asked[i], got, want)
		}
	}
	keepsSession(t, inSession(n, asked...))
}

func TestP42TheExampleOfTheDocument(t *testing.T) {
	n := mustNet(docText)
	var asked []string
	want := ""
	for _, x := range exampleAsked() {
		asked = append(asked, x[0])
		want += x[1]
	}
	if got := asks(n, asked...); got != want {
		t.Errorf("%q", got)
	}
	answeredAll(t, n, exampleAsked())
}

// TestP42TheExampleOnAllNodes: where blocks stand matters to frames alone.
func TestP42TheExampleOnAllNodes(t *testing.T) {
	n := mustNet(docText)
	one := impl.NetMove(n, 0)
	answeredAll(t, one, [][2]string{{"push 0", "ok\n"}, {"take 1", "ok\n"}, {"tick 0", "ok\n"}, {"keep 0", "no\n"}, {"take 0", "ok\n"}, {"told", "told 1\nq.pass 3\n"}, {"done", "yes\n"}, {"safe", "yes\n"}})
	asked := []string{"push 0", "calm 2", "push 0", "calm 2", "push 0", "push 0", "push 0", "push 0", "calm 9", "told", "done", "safe", "state p", "state q"}
	want := asks(one, asked...)
	for node := range 9 {
		n.Uses[0].Node, n.Uses[1].Node = node%3, node/3
		if got := keepsSession(t, inSession(n, asked...)); got != want {
			t.Errorf("%d: %q, not %q", node, got, want)
		}
	}
	if want != "ok\nok\nok\nok\nok\nok\nok\nno\nok\ntold 5\nq.pass 3\nq.pass 5\nq.drop -\nq.drop -\nq.drop -\nyes\nyes\nwait n=5 c=5\nopen x=5 y=5\n" {
		t.Errorf("%q", want)
	}
}

func TestP42WithoutGo(t *testing.T) {
	net := linesOf(docText)
	cases := map[string][]string{
		"no lines":          nil,
		"no line":           {},
		"an empty line":     {""},
		"no net":            {"what"},
		"a net":             net,
		"a blank ahead":     append(slices.Clone(net), " go"),
		"a blank behind":    append(slices.Clone(net), "go "),
		"in capitals":       append(slices.Clone(net), "GO", "Go"),
		"a newline behind":  append(slices.Clone(net), "go\n"),
		"two words":         append(slices.Clone(net), "go go", "push 0"),
		"within a line":     append(slices.Clone(net), "x\ngo\npush 0"),
		"asked without one": append(slices.Clone(net), "push 0", "told", "done"),
		"behind 150":        append(make([]string, 150), "go"),
		"behind a net":      append(append(slices.Clone(net), make([]string, 150-len(net))...), "go", "told"),
	}
	for name, lines := range cases {
		if got := keepsSession(t, lines); got != "" {
			t.Errorf("%s: %q", name, got)
		}
	}
}

// TestP42TextsThatAreNoNet has what is no net ahead of go; nothing that is asked behind it is answered.
func TestP42TextsThatAreNoNet(t *testing.T) {
	texts := append(nearlyNets(), strings.TrimSuffix(docText, "sink q.drop\n"), wantNetText(sizedNet(3001)))
	wrong := 0
	for _, s := range texts {
		ahead := linesOf(s)
		// Lines have a newline each, so that a text without its last one may be a net as lines.
		_, isNet := impl.NetGet(strings.Join(ahead, "\n") + "\n")
		for _, asked := range [][]string{nil, {"done"}, {"push 0", "told", "go", "safe"}} {
			got := keepsSession(t, slices.Concat(ahead, []string{"go"}, asked))
			if isNet || slices.Contains(ahead, "go") || len(ahead) >= 150 {
				continue
			}
			wrong++
			if got != "wrong\n" {
				t.Errorf("%q: %q", s, got)
			}
		}
	}
	if wrong < 300 {
		t.Error(wrong)
	}
	for _, lines := range [][]string{{"go"}, {"go", "go"}, {"go", "done"}, {"use", "go"}, {"", "go"}, {"what", "go", "what"}, append(linesOf(docText), "", "go"), append([]string{""}, append(linesOf(docText), "go")...), append(linesOf(docText), "push 0", "go")} {
		if got := keepsSession(t, lines); got != "wrong\n" {
			t.Errorf("%q: %q", lines, got)
		}
	}
}

// TestP42LimitsOfNets meets each limit of a net exactly, and goes beyond each by one.
func TestP42LimitsOfNets(t *testing.T) {
	cases := map[string]func(s string) string{
		"a block more":  func(s string) string { return strings.Replace(s, "use u1", starText("e")+"use u1", 1) },
		"a use more":    func(s string) string { return strings.Replace(s, "wire", "use u6 a 0\nwire", 1) },
		"a wire more":   func(s string) string { return strings.Replace(s, "source", "wire u1.p u3.f\nsource", 1) },
		"a source more": func(s string) string { return strings.Replace(s, "sink", "source u2.e\nsink", 1) },
		"a sink more":   func(s string) string { return s + "sink u2.o\n" },
		"a tell more":   func(s string) string { return strings.Replace(s, "tell o\n", "tell o\ntell o\n", 1) },
		"a node more":   func(s string) string { return strings.Replace(s, "use u5 a 2", "use u5 a 3", 1) },
	}
	star := wantNetText(starNet())
	asked := []string{"push 0 7", "take 7", "told", "state u1", "calm 3", "told", "safe"}
	if got := keepsSession(t, inSession(starNet(), asked...)); !strings.HasPrefix(got, "ok\nok\ntold 3\nu1.o 70\nu1.o 70\nu1.o 70\ns x=7 y=1 c=1\nok\ntold ") {
		t.Errorf("%q", got)
	}
	for name, turn := range cases {
		text := turn(star)
		if got := keepsSession(t, append(linesOf(text), "go", "done")); got != "wrong\n" || text == star {
			t.Errorf("%s: %q", name, got)
		}
	}
	for size, want := range map[int]string{2999: "ok\nyes\n", 3000: "ok\nyes\n", 3001: "wrong\n"} {
		if got := keepsSession(t, inSession(sizedNet(size), "calm 1", "safe")); got != want {
			t.Errorf("%d bytes: %q", size, got)
		}
	}
}

// TestP42TheFirst150Lines has so many lines, one less and more, with go on each of the last places.
func TestP42TheFirst150Lines(t *testing.T) {
	if impl.SessionMax != 150 {
		t.Fatal(impl.SessionMax)
	}
	for size := 120; size <= 149; size++ {
		lines := inSession(longNet(size), slices.Repeat([]string{"done"}, 40)...)
		if lines[size] != "go" {
			t.Fatal(size)
		}
		if got := keepsSession(t, lines); got != strings.Repeat("yes\n", min(40, 149-size)) {
			t.Errorf("%d: %q", size, got)
		}
	}
	for size, want := range map[int]string{148: "wrong\n", 149: "wrong\n", 150: "", 151: ""} {
		lines := append(slices.Repeat([]string{"what"}, size), "go", "done")
		if got := keepsSession(t, lines); got != want {
			t.Errorf("go behind %d lines: %q", size, got)
		}
	}
	net := mustNet(docText)
	ahead := len(linesOf(docText)) + 1
	for asked := 150 - ahead - 2; asked <= 150-ahead+20; asked++ {
		lines := inSession(net, slices.Repeat([]string{"told"}, asked)...)
		if got := keepsSession(t, lines); got != strings.Repeat("told 0\n", min(asked, 150-ahead)) {
			t.Errorf("%d lines: %q", len(lines), got)
		}
	}
	full := inSession(net, slices.Repeat([]string{"push 0"}, 150-ahead)...)
	want := impl.Session(full)
	for _, line := range []string{"push 0", "told", "what", "go", "", "safe"} {
		if got := keepsSession(t, append(slices.Clone(full), line, line)); got != want || strings.Count(got, "\n") != 150-ahead {
			t.Errorf("%q behind 150 lines: %q", line, got)
		}
	}
}

// TestP42LinesThatAreNone has lines of which no word, or not so many, or not in that way, is asked for.
func TestP42LinesThatAreNone(t *testing.T) {
	lines := []string{
		"", " ", "  ", "\n", "\t", "\x00", "\xff", "what", "What", "help", "go", "wrong", "ok", "yes", "no", "block a", "use p count 0", "sink q.drop", "save 0", "fall 0", "0", "-", ",",
		"push", "push ", "push  ", "push 0 ", "push  0", " push 0", "push 0  1", "push 0 1 ", "push 0 1 2", "push 0 1,2 3", "Push 0", "PUSH 0", "push0", "push,0", "push\t0", "push 0\n", "push 0\x00", "push x", "push 0 x", "push p.tick", "push - 1", "push 0 0x1", "push 0 1.0", "push 0 1e1",
		"push 0 -", "push 0 ,", "push 0 1,", "push 0 ,1", "push 0 1,,2", "push 0 1,x", "push 0 1;2", "push 0 1, 2",
		"take", "take ", "take  0", " take 0", "take 0 ", "take 0 0", "take 0 0 0", "take x", "take p.up", "take 0,1", "take 1,", "takes 0", "tak 0", "Take 0",
		"tick", "tick ", "tick  0", "tick 0 ", "tick 0 1", "tick x", " tick 0", "tick 0,1",
		"bring", "bring ", "bring  0", "bring 0 ", "bring 0 1", "bring x", " bring 0",
		"keep", "keep ", "keep  0", "keep 0 ", "keep 0 1", "keep x", " keep 0",
		"lose", "lose ", "lose  0", "lose 0 ", "lose 0 1", "lose x", " lose 0",
		"spoil", "spoil ", "spoil 0", "spoil 0 ", "spoil  0 0", "spoil 0  0", "spoil 0 0 ", "spoil 0 0 0", "spoil x 0", "spoil 0 x", " spoil 0 0", "spoil 0,0", "spoil 0 0,0",
		"calm", "calm ", "calm  1", "calm 1 ", "calm 1 1", "calm x", " calm 1", "calm 1,1", "Calm 1",
		"done ", " done", "done done", "done 0", "Done", "done\n", "safe ", " safe", "safe 0", "safe safe", "SAFE", "told ", " told", "told 0", "told told", "tell",
		"state", " state p", "state  p", "state p ", "state p q", "state p p", "State p", "states p", "state p c",
	}
	for kind, tail := range map[string]string{"push": "", "take": "", "tick": "", "bring": "", "keep": "", "lose": "", "calm": "", "spoil": " 0"} {
		for _, num := range wrongNums() {
			lines = append(lines, kind+" "+num+tail)
		}
		lines = append(lines, kind+" -1"+tail, kind+" -999999"+tail)
	}
	for _, num := range wrongNums() {
		lines = append(lines, "spoil 0 "+num, "push 0 "+num, "push 0 1,"+num, "push 0 "+num+",1")
	}
	lines = append(lines, "spoil 0 -1", "spoil 0 -999999")
	n := mustNet(docText)
	ahead := []string{"push 0", "take 1", "tick 0"}
	end := []string{"state p", "state q", "told", "bring 0", "take 0", "told", "safe"}
	want := asks(n, slices.Concat(ahead, end)...)
	for _, line := range lines {
		got := keepsSession(t, inSession(n, slices.Concat(ahead, []string{line}, end)...))
		if got != want[:len("ok\nok\nok\n")]+"what\n"+want[len("ok\nok\nok\n"):] {
			t.Errorf("%q: %q", line, got)
		}
	}
}

// wrongNums is texts that write no number.
func wrongNums() []string {
	return []string{
		"", "-", "--1", "+1", "+0", "-0", "00", "01", "007", "-01", "-00", "000000", "0000001", "1-", "1+1", "1_0", "0x1", "0b1", "0o1", "1e3", "1.0", ".1", "1.", "x", "1x", "x1", "(1)", "１",
		"1000000", "-1000000", "9999999", "2147483647", "2147483648", "-2147483648", "-2147483649", "4294967296", "9223372036854775807", "9223372036854775808", "99999999999999999999", "-99999999999999999999",
		"1\n", "\n1", "\t1", "1\x00", "\xff",
	}
}

// sumText is a net with a block that adds up what comes, in several ways.
const sumText = "block sum\nin val x\nin two x,z\nin three x,z,w\nout big y\nout all u,v,q\nout none\nvar c -7\nvar d 999999\nstate s\non val a 1\non two b 1\non three b 1\nstate a\non - s 1\nset y 999999*2147+485794+x\nset c c-x\ntell big\nstate b\non - e 1\nset u x\nset v z\nset q w\ntell all\nstate e\non - s 1\nset y x*z\ntell none\nuse p sum 2\nsource p.val\nsource p.two\nsource p.three\nsink p.all\nsink p.none\nsink p.big\n"

// TestP42Numbers has values at the limits of a line, at those of 32 bits, and one beyond both.
func TestP42Numbers(t *testing.T) {
	n := mustNet(sumText)
	answeredAll(t, n, [][2]string{
		{"state p", "s x=0 z=0 w=0 y=0 u=0 v=0 q=0 c=-7 d=999999\n"},
		{"push 0 0", "ok\n"}, {"take 0", "ok\n"}, {"told", "told 1\np.big 2147483647\n"}, {"state p", "s x=0 z=0 w=0 y=2147483647 u=0 v=0 q=0 c=-7 d=999999\n"},
		{"push 0 1", "ok\n"}, {"take 0", "ok\n"}, {"told", "told 2\np.big 2147483647\np.big -2147483648\n"}, {"state p", "s x=1 z=0 w=0 y=-2147483648 u=0 v=0 q=0 c=-8 d=999999\n"},
		{"push 0 -1", "ok\n"}, {"take 0", "ok\n"}, {"state p", "s x=-1 z=0 w=0 y=2147483646 u=0 v=0 q=0 c=-7 d=999999\n"},
		{"push 0 999999", "ok\n"}, {"push 0 -999999", "ok\n"}, {"push 0 1000000", "what\n"}, {"push 0 -1000000", "what\n"}, {"take 0", "ok\n"}, {"take 0", "ok\n"}, {"take 0", "no\n"}, {"state p", "s x=-999999 z=0 w=0 y=2146483648 u=0 v=0 q=0 c=-7 d=999999\n"},
		{"push 0 2147483647", "what\n"}, {"push 0 -2147483648", "what\n"}, {"push 0 2147483648", "what\n"}, {"push 0 -0", "what\n"}, {"push 0 00", "what\n"}, {"push 0 +1", "what\n"},
		{"push 1 65536,32768", "ok\n"}, {"take 1", "ok\n"}, {"state p", "s x=65536 z=32768 w=0 y=-2147483648 u=65536 v=32768 q=0 c=-7 d=999999\n"},
		{"push 2 -1,0,999999", "ok\n"}, {"take 2", "ok\n"}, {"state p", "s x=-1 z=0 w=999999 y=0 u=-1 v=0 q=999999 c=-7 d=999999\n"},
		{"push 1 1,-0", "what\n"}, {"push 1 -1,-2", "ok\n"}, {"push 1 0,0", "ok\n"}, {"push 2 -999999,999999,-1", "ok\n"}, {"calm 1", "ok\n"},
		{"told", "told 15\np.big 2147483647\np.big -2147483648\np.big 2147483646\np.big -2146483650\np.big 2146483648\np.all 65536,32768,0\np.none -\np.all -1,0,999999\np.none -\np.all -1,-2,999999\np.none -\np.all -999999,999999,-1\np.none -\np.all 0,0,-1\np.none -\n"},
	})
}

// TestP42WhatCannotBe has lines that are ones, but tell of what is not there.
func TestP42WhatCannotBe(t *testing.T) {
	n := mustNet(sumText)
	w := []string{"push 3", "push 3 1", "push 999999", "push 0", "push 0 1,2", "push 0 1,2,3", "push 1", "push 1 1", "push 1 1,2,3", "push 2 1,2", "push 2 1,2,3,4", "push 2 " + strings.Repeat("1,", 500) + "1",
		"take 0", "take 2", "take 3", "take 999999", "tick 3", "tick 999999", "bring 0", "bring 1", "keep 0", "keep 999999", "lose 0", "lose 1", "spoil 0 0", "spoil 1 999999",
		"state q", "state ", "state P", "state p.val", "state sum", "state s", "state -", "state 0", "state \n", "state p\n", "state pp"}
	for _, line := range w {
		answeredAll(t, n, [][2]string{{line, "no\n"}, {"push 0 5", "ok\n"}, {line, map[bool]string{true: "ok\n", false: "no\n"}[line == "take 0"]}, {"safe", "yes\n"}})
	}
}

// TestP42LimitsOfWorlds meets limits of a world exactly, and goes beyond by one.
func TestP42LimitsOfWorlds(t *testing.T) {
	answeredAll(t, mustNet(twinText), [][2]string{
		{"push 0", "ok\n"}, {"push 0", "ok\n"}, {"push 0", "ok\n"}, {"push 0", "no\n"}, {"take 2", "ok\n"}, {"take 2", "no\n"}, {"push 0", "ok\n"}, {"push 0", "no\n"},
		{"tick 0", "ok\n"}, {"keep 1", "ok\n"}, {"keep 2", "no\n"}, {"bring 0", "ok\n"}, {"tick 1", "ok\n"}, {"bring 1", "ok\n"}, {"bring 1", "no\n"}, {"take 2", "ok\n"}, {"take 2", "no\n"}, {"bring 0", "ok\n"}, {"tick 1", "ok\n"}, {"bring 0", "ok\n"}, {"take 2", "no\n"},
		{"tick 2", "ok\n"}, {"tick 3", "no\n"}, {"calm 0", "ok\n"}, {"told", "told 0\n"}, {"done", "no\n"}, {"calm 60", "ok\n"}, {"told", "told 8\nr.pass 1\nr.pass 21\nr.pass 322\nr.pass 4342\nr.pass 54643\nr.pass 658663\nr.pass 7708964\nr.pass 88312984\n"}, {"done", "yes\n"}, {"calm 61", "ok\n"}, {"calm 999999", "ok\n"}, {"calm 1000000", "what\n"}, {"safe", "yes\n"},
	})
}

// TestP42FramesUnderWay has as many frames under way as there can be, all of which can be spoilt, and come or not.
func TestP42FramesUnderWay(t *testing.T) {
	list := [][2]string{{"push 0", "ok\n"}, {"take 2", "ok\n"}, {"bring 0", "no\n"}}
	for range 20 {
		list = append(list, [2]string{"tick 0", "ok\n"})
	}
	list = append(list, [2]string{"tick 0", "ok\n"}, [2]string{"keep 40", "no\n"}, [2]string{"keep 39", "ok\n"}, [2]string{"bring 39", "ok\n"}, [2]string{"bring 39", "no\n"}, [2]string{"spoil 39 0", "no\n"}, [2]string{"lose 38", "ok\n"}, [2]string{"lose 38", "no\n"})
	for at := range 38 {
		list = append(list, [2]string{fmt.Sprintf("spoil %d %d", at, []int{0, 7, 79, 80, 999999}[at%5]), "ok\n"})
	}
	list = append(list, [2]string{"take 0", "no\n"}, [2]string{"bring 37", "ok\n"}, [2]string{"take 0", "no\n"}, [2]string{"calm 1", "ok\n"}, [2]string{"bring 0", "no\n"}, [2]string{"calm 4", "ok\n"}, [2]string{"told", "told 2\nr.pass 1\nr.pass 21\n"}, [2]string{"safe", "yes\n"})
	answeredAll(t, mustNet(twinText), list)
}

// TestP42AllThatCanBeDone has as much told outside, and then as much done, as there can be: 498 by seven that come and calms, then one that comes, and one that is taken.
func TestP42AllThatCanBeDone(t *testing.T) {
	for _, node := range []int{0, 2, -1} {
		var asked []string
		for range 7 {
			asked = append(asked, "push 0", "calm 60")
		}
		asked = append(asked, "done", "push 0", "push 0", "push 0", "take 4", "tick 0", "told", "safe", "done")
		got := keepsSession(t, inSession(tripleNet(11, node), asked...))
		want := strings.Repeat("ok\nok\n", 7) + "yes\nok\nok\nno\nno\nok\ntold 200\n"
		for i := range 200 {
			want += fmt.Sprintf("e.o %d\n", i+1)
		}
		if got != want+"yes\nno\n" {
			t.Errorf("%d: %q", node, got)
		}
		asked = append(asked[:16], "take 4", "take 3", "take 0", "push 0", "safe")
		if got := keepsSession(t, inSession(tripleNet(11, node), asked...)); !strings.HasSuffix(got, "yes\nok\nok\nno\nno\nno\nyes\n") {
			t.Errorf("%d: %q", node, got)
		}
	}
}

// TestP42NewlinesWithinLines: the lines ahead of go are a text, however they are cut; a line behind it is one line.
func TestP42NewlinesWithinLines(t *testing.T) {
	want := asks(mustNet(docText), "push 0", "calm 3", "told")
	for _, lines := range [][]string{
		{strings.TrimSuffix(docText, "\n"), "go", "push 0", "calm 3", "told"},
		{strings.TrimSuffix(countText, "\n"), strings.TrimSuffix(strings.TrimPrefix(docText, countText), "\n"), "go", "push 0", "calm 3", "told"},
	} {
		if got := keepsSession(t, lines); got != want || !strings.HasSuffix(got, "told 1\nq.pass 3\n") {
			t.Errorf("%q", got)
		}
	}
	if got := keepsSession(t, []string{docText, "go", "told"}); got != "wrong\n" {
		t.Errorf("an empty line at the end of a net: %q", got)
	}
	if got := asks(mustNet(docText), "push 0\ncalm 3", "done\n", "\ntold"); got != "what\nwhat\nwhat\n" {
		t.Errorf("%q", got)
	}
}

// TestP42AsPromised asks all kinds of lines of nets on all kinds of nodes, holds them against the words of the document, and against the first so many of them.
func TestP42AsPromised(t *testing.T) {
	t.Parallel()
	r := rand.New(rand.NewSource(42))
	seen := map[string]int{}
	for _, n := range slices.Concat(wiredNets(r, 160), livelyNets(r, 120)) {
		asked := someAsked(r, n, 40)
		lines := inSession(n, asked...)
		whole := keepsSession(t, lines)
		for range 4 {
			size := r.Intn(len(lines))
			first := impl.Session(lines[:size])
			if !strings.HasPrefix(whole, first) || size <= slices.Index(lines, "go") && first != "" {
				t.Fatalf("%d: %q does not begin %q", size, first, whole)
			}
		}
		for _, line := range linesOf(whole) {
			word, _, _ := strings.Cut(line, " ")
			seen[word]++
		}
	}
	for _, word := range []string{"ok", "no", "yes", "what", "told"} {
		if seen[word] < 100 {
			t.Errorf("%s: %v", word, seen[word])
		}
	}
}

// TestP42LinesTurned has a session with some lines others, gone, twice, or in another order: it is as the document asks, and still begins with what it is without its end.
func TestP42LinesTurned(t *testing.T) {
	r := rand.New(rand.NewSource(43))
	right, wrong := 0, 0
	for range 2000 {
		n := mustNet([]string{docText, twinText, halfText, chainText, sumText}[r.Intn(5)])
		text := strings.Join(inSession(n, someAsked(r, n, 12)...), "\n") + "\n"
		for range 1 + r.Intn(2) {
			text = []func(*rand.Rand, string) string{spoilt, relined}[r.Intn(2)](r, text)
		}
		lines := linesOf(text)
		whole := keepsSession(t, lines)
		if first := impl.Session(lines[:r.Intn(len(lines)+1)]); !strings.HasPrefix(whole, first) {
			t.Fatalf("%q does not begin %q", first, whole)
		}
		if whole == "wrong\n" {
			wrong++
		} else if whole != "" {
			right++
		}
	}
	if right < 300 || wrong < 300 {
		t.Errorf("%d right, %d wrong", right, wrong)
	}
}

// TestP43AllIsSafe puts safe at the end of sessions, and told ahead of it.
func TestP43AllIsSafe(t *testing.T) {
	t.Parallel()
	r := rand.New(rand.NewSource(44))
	for _, n := range shortNets(slices.Concat(wiredNets(r, 220), livelyNets(r, 100)), 40) {
		asked := someAsked(r, n, 30)
		want := asks(n, asked...)
		if got := asks(n, append(asked, "safe")...); got != want+"yes\n" {
			t.Fatalf("%q, not %q and yes\n%s\n%q", got, want, wantNetText(n), asked)
		}
		told := strings.TrimPrefix(asks(n, append(asked, "told")...), want)
		if got := asks(n, append(asked, "told", "safe")...); got != want+told+"yes\n" || !strings.HasPrefix(told, "told ") {
			t.Fatalf("%q, not %q and %q and yes\n%s\n%q", got, want, told, wantNetText(n), asked)
		}
		if got := asks(n, append(asked, "safe", "told", "told", "safe", "safe")...); got != want+"yes\n"+told+told+"yes\nyes\n" {
			t.Fatalf("%q, not %q\n%q", got, want, asked)
		}
	}
}

// TestP43WhoAsksChangesNothing takes all lines that only ask out of a session: the others are answered as they were.
func TestP43WhoAsksChangesNothing(t *testing.T) {
	t.Parallel()
	r := rand.New(rand.NewSource(45))
	taken := 0
	for _, n := range shortNets(slices.Concat(wiredNets(r, 90), livelyNets(r, 40)), 40) {
		asked := someAsked(r, n, 30)
		var left []string
		want := ""
		for i, answer := range answersOf(t, n, asked) {
			word, _, _ := strings.Cut(asked[i], " ")
			if slices.Contains([]string{"done", "safe", "told", "state"}, word) || answer == "what\n" || answer == "no\n" {
				taken++
				continue
			}
			left = append(left, asked[i])
			want += answer
		}
		if got := asks(n, left...); got != want {
			t.Fatalf("%q, not %q\n%s\n%q\n%q", got, want, wantNetText(n), asked, left)
		}
		if got, all := asks(n, append(left, "told", "safe", "done")...)[len(want):], asks(n, append(asked, "told", "safe", "done")...); !strings.HasSuffix(all, got) {
			t.Fatalf("%q is not the end of %q", got, all)
		}
	}
	if taken < 300 {
		t.Error(taken)
	}
}

// TestP43WhatIsAskedTwice: each line that only asks is answered as it was, right behind itself.
func TestP43WhatIsAskedTwice(t *testing.T) {
	for _, text := range []string{docText, twinText, halfText, chainText, sumText} {
		n := mustNet(text)
		lines := []string{"told", "safe", "done", "state none"}
		for _, u := range n.Uses {
			lines = append(lines, "state "+u.Name)
		}
		var asked []string
		for _, line := range []string{"push 0", "push 0 3", "tick 0", "calm 1", "push 0", "push 0 -4", "take 4", "take 2", "tick 1", "keep 0", "calm 3"} {
			asked = append(asked, line)
			for _, ask := range lines {
				asked = append(asked, ask, ask)
			}
		}
		asked = asked[:149-strings.Count(text, "\n")]
		got := answersOf(t, n, asked)
		for i := range asked[1:] {
			if asked[i] == asked[i+1] && got[i] != got[i+1] {
				t.Errorf("%q: %q, then %q", asked[i], got[i], got[i+1])
			}
		}
		keepsSession(t, inSession(n, asked...))
	}
}

// TestP43OnTheLastLine has safe as the last line that is answered.
func TestP43OnTheLastLine(t *testing.T) {
	n := mustNet(twinText)
	room := 149 - strings.Count(twinText, "\n")
	var asked []string
	for len(asked) < room-1 {
		asked = append(asked, []string{"push 0", "take 2", "tick 0", "keep 0", "bring 0", "take 0", "tick 1", "bring 0", "lose 1"}[len(asked)%9])
	}
	asked = append(asked, "safe")
	got := keepsSession(t, inSession(n, asked...))
	if !strings.HasSuffix(got, "\nyes\n") || keepsSession(t, inSession(n, append(asked, "told", "safe")...)) != got {
		t.Errorf("%q", got)
	}
}
