package tests

import (
	"math/rand"
	"regexp"
	"slices"
	"strconv"
	"strings"
	"testing"

	"loop.example/telltale/impl"
)

const (
	// How a line writes a number, and one that may be below 0.
	numForm    = `(0|[1-9][0-9]{0,5})`
	signedForm = `(?:0|-?[1-9][0-9]{0,5})`
	gateLines  = "block gate\nin val x\nout pass y\nout drop\nstate open\non val fwd x<3\non val no 1\nstate fwd\non - open 1\nset y x*2+1\ntell pass\nstate no\non - open 1\ntell drop\n"
	// docText is the net of the document's session.
	docText = countText + gateLines + "use p count 0\nuse q gate 1\nwire p.up q.val\nsource p.tick\nsink q.pass\nsink q.drop\n"
)

var (
	pushLine  = regexp.MustCompile(`\Apush ` + numForm + `(?: (` + signedForm + `(?:,` + signedForm + `)*))?\z`)
	placeLine = regexp.MustCompile(`\A(take|tick|bring|keep|lose|calm) ` + numForm + `\z`)
	spoilLine = regexp.MustCompile(`\Aspoil ` + numForm + ` ` + numForm + `\z`)
	stateLine = regexp.MustCompile(`\Astate ([^ ]*)\z`)
)

// exampleAsked is the lines behind go of the document's session, each with its answer.
func exampleAsked() [][2]string {
	return [][2]string{
		{"push 0", "ok\n"}, {"take 1", "ok\n"}, {"state p", "wait n=1 c=1\n"}, {"tick 0", "ok\n"}, {"keep 0", "ok\n"}, {"bring 0", "ok\n"}, {"take 0", "ok\n"},
		{"told", "told 1\nq.pass 3\n"}, {"tick 1", "ok\n"}, {"bring 0", "ok\n"}, {"push 0", "ok\n"}, {"push 0", "ok\n"}, {"push 0", "ok\n"}, {"push 0", "no\n"},
		{"take 1", "ok\n"}, {"spoil 0 3", "no\n"}, {"lose 0", "no\n"}, {"take 1", "ok\n"}, {"calm 4", "ok\n"}, {"told", "told 4\nq.pass 3\nq.pass 5\nq.drop -\nq.drop -\n"},
		{"done", "yes\n"}, {"safe", "yes\n"}, {"state q", "open x=4 y=5\n"}, {"state z", "no\n"}, {"push 0 1", "no\n"}, {"take 7", "no\n"}, {"what", "what\n"},
	}
}

// linesOf is the lines of a text that ends with a newline.
func linesOf(s string) []string {
	return strings.Split(strings.TrimSuffix(s, "\n"), "\n")
}

// inSession is the lines of a net, go, and those that are asked.
func inSession(n impl.Net, asked ...string) []string {
	return slices.Concat(linesOf(wantNetText(n)), []string{"go"}, asked)
}

// asks is what lines are answered that are asked of a new world.
func asks(n impl.Net, asked ...string) string {
	return impl.Session(inSession(n, asked...))
}

// wantSession is what the document asks for.
func wantSession(lines []string) string {
	if len(lines) > 150 {
		lines = lines[:150]
	}
	end := slices.Index(lines, "go")
	if end < 0 {
		return ""
	}
	text := ""
	for _, line := range lines[:end] {
		text += line + "\n"
	}
	n, ok := impl.NetGet(text)
	if !ok {
		return "wrong\n"
	}
	w := impl.WorldNew(n)
	var out strings.Builder
	for _, line := range lines[end+1:] {
		out.WriteString(wantAnswer(&w, line) + "\n")
	}
	return out.String()
}

func wantAnswer(w *impl.World, line string) string {
	switch line {
	case "done":
		return []string{"no", "yes"}[bit(wantDone(*w))]
	case "safe":
		return []string{"no", "yes"}[bit(wantSafe(*w))]
	case "told":
		return wantToldText(*w)
	}
	if x := stateLine.FindStringSubmatch(line); x != nil {
		return wantStateText(*w, x[1])
	}
	if x := placeLine.FindStringSubmatch(line); x != nil && x[1] == "calm" {
		*w = wantCalm(*w, mustNum(x[2]))
		return "ok"
	}
	e, ok := wantEventOf(line)
	if !ok {
		return "what"
	}
	next, can := wantWorldDo(*w, e)
	*w = next
	return []string{"no", "ok"}[bit(can)]
}

// wantEventOf is the event that a line tells, if it tells one.
func wantEventOf(line string) (impl.Event, bool) {
	if x := pushLine.FindStringSubmatch(line); x != nil {
		return pushes(mustNum(x[1]), mustNums(x[2])...), true
	}
	if x := spoilLine.FindStringSubmatch(line); x != nil {
		return spoils(mustNum(x[1]), mustNum(x[2])), true
	}
	x := placeLine.FindStringSubmatch(line)
	if x == nil {
		return impl.Event{}, false
	}
	kind := 2 + slices.Index([]string{"take", "tick", "bring", "keep", "lose"}, x[1])
	return impl.Event{Kind: kind, At: mustNum(x[2])}, true
}

func wantToldText(w impl.World) string {
	text := "told " + strconv.Itoa(len(w.Out))
	for _, x := range w.Out {
		e := w.Net.Sinks[x.Sink]
		text += "\n" + e.Use + "." + e.Event + " " + wantValues(x.Vals, "-")
	}
	return text
}

func wantStateText(w impl.World, use string) string {
	at := useOf(w.Net, use)
	if at < 0 {
		return "no"
	}
	b, x := wantBlock(w.Net, use), w.Insts[at]
	text := b.States[x.State].Name
	for i, name := range wantNames(b) {
		text += " " + name + "=" + strconv.Itoa(x.Vals[i])
	}
	return text
}

// wantValues is values with commas between, or what stands for none.
func wantValues(vals []int, none string) string {
	if len(vals) == 0 {
		return none
	}
	text := ""
	for _, num := range vals {
		text += "," + strconv.Itoa(num)
	}
	return text[1:]
}

func mustNum(s string) int {
	num, err := strconv.Atoi(s)
	if err != nil {
		panic(s)
	}
	return num
}

func mustNums(s string) []int {
	var out []int
	for part := range strings.SplitSeq(s, ",") {
		if s != "" {
			out = append(out, mustNum(part))
		}
	}
	return out
}

// keepsSession asks Session for what the document asks for, and that nothing is written or kept.
func keepsSession(t *testing.T, lines []string) string {
	t.Helper()
	h := hand(lines)
	got := impl.Session(h.now)
	if want := wantSession(lines); got != want {
		t.Fatalf("%q, not %q\n%s", got, want, strings.Join(lines, "\n"))
	}
	if !h.isUntouched() || impl.Session(h.now) != got {
		t.Fatalf("an argument was written, or something was kept: %q", lines)
	}
	return got
}

// answersOf is what each line that is asked is answered, by sessions with a line more each; that one begins the next is promised.
func answersOf(t *testing.T, n impl.Net, asked []string) []string {
	t.Helper()
	var out []string
	last := ""
	for i := range asked {
		next := asks(n, asked[:i+1]...)
		if !strings.HasPrefix(next, last) || !strings.HasSuffix(next, "\n") || len(next) == len(last) {
			t.Fatalf("%q: %q is behind %q\n%s", asked[i], next, last, wantNetText(n))
		}
		out = append(out, next[len(last):])
		last = next
	}
	return out
}

// eventLine is how a line tells an event.
func eventLine(e impl.Event) string {
	words := []string{"", "push", "take", "tick", "bring", "keep", "lose", "spoil"}
	if e.Kind < 1 || e.Kind >= len(words) {
		return "what"
	}
	line := words[e.Kind] + " " + strconv.Itoa(e.At)
	if e.Kind == impl.WorldSpoil {
		line += " " + strconv.Itoa(e.Num)
	}
	if e.Kind == impl.WorldPush && len(e.Vals) > 0 {
		line += " " + wantValues(e.Vals, "")
	}
	return line
}

// smallEvent has values of an event that a line can tell; they are still often at their limits.
func smallEvent(r *rand.Rand, e impl.Event) impl.Event {
	e.Vals = slices.Clone(e.Vals)
	for i := range e.Vals {
		e.Vals[i] = []int{0, 1, -1, 2, 999999, -999999, r.Intn(1000000), -r.Intn(1000000)}[r.Intn(8)]
	}
	return e
}

// askLine is a line that changes nothing.
func askLine(r *rand.Rand, n impl.Net) string {
	lines := []string{"done", "safe", "told", "what", "go", "", "calm 0", "state none", "push", "take", "use p count 0"}
	for _, u := range n.Uses {
		lines = append(lines, "state "+u.Name)
	}
	return lines[r.Intn(len(lines))]
}

// someAsked is so many lines that can mostly be, one behind the other, some of which change nothing, or are none.
func someAsked(r *rand.Rand, n impl.Net, size int) []string {
	w := impl.WorldNew(n)
	var out []string
	for range size {
		line := eventLine(smallEvent(r, someEvent(r, w)))
		switch r.Intn(14) {
		case 0, 1, 2:
			line = askLine(r, n)
		case 3:
			line = "calm " + strconv.Itoa(r.Intn(4))
		case 4:
			line = spoilt(r, line)
		}
		wantAnswer(&w, line)
		out = append(out, line)
	}
	return out
}

// shortNets is those of a list behind whose lines, and go, so many are still answered.
func shortNets(list []impl.Net, room int) []impl.Net {
	return slices.DeleteFunc(list, func(n impl.Net) bool { return len(linesOf(wantNetText(n)))+1+room > 150 })
}

// longNet is a net whose text has so many lines, between 103 and 149.
func longNet(size int) impl.Net {
	text := ""
	for _, name := range []string{"a", "b", "c"} {
		text += "block " + name + "\nin e\nout o\n"
		for _, state := range []string{"s", "t", "u", "v", "w"} {
			text += "state " + state + "\n" + strings.Repeat("on e s 1\n", 4) + strings.Repeat("tell o\n", 4)
		}
	}
	text += "use a a 0\nuse b b 1\nuse c c 2\nuse d a 0\nuse e b 1\n"
	for strings.Count(text, "\n") > size {
		at := strings.LastIndex(text, "tell o\n")
		text = text[:at] + text[at+len("tell o\n"):]
	}
	return mustNet(text)
}
