package tests

import (
	"fmt"
	"math/rand"
	"slices"
	"strings"
	"testing"

	"loop.example/telltale/impl"
)

func TestNameOk(t *testing.T) {
	for _, s := range []string{"a", "z", "m", "a0", "a9", "abcdef", "a00000", "z9z9z9"} {
		if !impl.NameOk(s) {
			t.Errorf("%q is a name", s)
		}
	}
	for _, s := range []string{"", "0", "9a", "abcdefg", "a000000", "A", "aB", "aZ", "`", "{", "a`", "a{", "a/", "a:", "a_", "a ", " a", "a-", "é", "aé", "a\x00", "a\n", "\xff"} {
		if impl.NameOk(s) {
			t.Errorf("%q is no name", s)
		}
	}
}

// checkPut holds ExprPut and ExprGet against how the tree is written here.
func checkPut(t *testing.T, x *tree) {
	t.Helper()
	list, want := x.nodes(), x.text()
	if len(want) > impl.ExprMax || deepOf(want) > impl.DeepMax || len(list) > impl.NodeMax {
		want = ""
	}
	got := impl.ExprPut(list)
	if got != want {
		t.Fatalf("%v is written %q, not %q", list, got, want)
	}
	back, ok := impl.ExprGet(x.text())
	if ok != (want != "") || ok && !slices.Equal(back, list) || !ok && back != nil {
		t.Fatalf("%q is read %v %v", x.text(), back, ok)
	}
}

func TestP1SmallSumsAreReadBack(t *testing.T) {
	for _, x := range upToThreeSigns() {
		checkPut(t, x)
	}
}

func TestP1GreatSumsAreReadBack(t *testing.T) {
	r := rand.New(rand.NewSource(1))
	for range 40000 {
		checkPut(t, someTree(r, 1+r.Intn(impl.NodeMax+2)))
	}
}

func chain(kind, signs int, leaf *tree, right bool) *tree {
	x := leaf
	for range signs {
		if right {
			x = &tree{kind: kind, left: leaf, right: x}
		} else {
			x = &tree{kind: kind, left: x, right: leaf}
		}
	}
	return x
}

func TestP1ParenthesesThatAreNeededAlone(t *testing.T) {
	for _, x := range upToThreeSigns() {
		s := impl.ExprPut(x.nodes())
		for at := range s {
			if s[at] != '(' {
				continue
			}
			end, open := at, 0
			for ; end < len(s); end++ {
				open += bit(s[end] == '(') - bit(s[end] == ')')
				if open == 0 {
					break
				}
			}
			bare := s[:at] + s[at+1:end] + s[end+1:]
			if list, ok := impl.ExprGet(bare); ok && slices.Equal(list, x.nodes()) {
				t.Fatalf("%q needs no parentheses at %d", s, at)
			}
		}
	}
}

func TestP1LimitsOfWriting(t *testing.T) {
	long := chain(impl.NodeAdd, 7, numTree(999999), false)
	checkLimit(t, "60 bytes", &tree{kind: impl.NodeAdd, left: long, right: numTree(1234)}, true)
	checkLimit(t, "61 bytes", &tree{kind: impl.NodeAdd, left: long, right: numTree(12345)}, false)
	checkLimit(t, "6 deep", chain(impl.NodeSub, 7, numTree(1), true), true)
	checkLimit(t, "7 deep", chain(impl.NodeSub, 8, numTree(1), true), false)
	for signs := impl.NodeMax - 1; signs <= impl.NodeMax; signs++ {
		x := nameTree("x")
		for range signs {
			x = &tree{kind: impl.NodeNot, right: x}
		}
		checkLimit(t, fmt.Sprint(signs+1, " nodes"), x, signs < impl.NodeMax)
	}
	checkLimit(t, "greatest number", numTree(999999), true)
	checkLimit(t, "longest name", nameTree("abcdef"), true)
}

func checkLimit(t *testing.T, what string, x *tree, fits bool) {
	t.Helper()
	checkPut(t, x)
	if (impl.ExprPut(x.nodes()) != "") != fits {
		t.Errorf("%s: %q", what, impl.ExprPut(x.nodes()))
	}
}

// wrongNodes is lists of nodes that no text gives.
func wrongNodes() [][]impl.Node {
	num := impl.Node{Kind: impl.NodeNum, Num: 1}
	name := impl.Node{Kind: impl.NodeName, Name: "x"}
	out := [][]impl.Node{
		nil,
		{},
		{num, num},
		{num, name, num},
		{{Kind: impl.NodeNum, Num: -1}},
		{{Kind: impl.NodeNum, Num: 1000000}},
		{{Kind: impl.NodeNum, Num: 1 << 40}},
		{{Kind: impl.NodeNum, Num: -1 << 63}},
		{{Kind: impl.NodeNum, Num: 1, Name: "x"}},
		{{Kind: impl.NodeName}},
		{{Kind: impl.NodeName, Num: 1, Name: "x"}},
		{{Kind: impl.NodeName, Name: "abcdefg"}},
		{{Kind: impl.NodeName, Name: "1"}},
		{{Kind: impl.NodeName, Name: "x+y"}},
		{{Kind: impl.NodeName, Name: "(x)"}},
		{{Kind: impl.NodeName, Name: " x"}},
		{{Kind: impl.NodeName, Name: strings.Repeat("x", 1000)}},
		{{Kind: impl.NodeName}, num, {Kind: impl.NodeSub}},
		{num, {Kind: 0}},
		{num, {Kind: -1}},
		{num, {Kind: 14}},
		{num, num, {Kind: 14}},
		{num, num, {Kind: 1 << 40}},
		{{Kind: 0}},
		{{Kind: 14, Num: 1, Name: "x"}},
		slices.Repeat([]impl.Node{num}, 100000),
	}
	for kind := impl.NodeNeg; kind <= impl.NodeOr; kind++ {
		sign := impl.Node{Kind: kind}
		out = append(out, []impl.Node{sign}, []impl.Node{sign, num}, []impl.Node{sign, num, num}, []impl.Node{num, num, num, sign})
		if kind >= impl.NodeMul {
			out = append(out, []impl.Node{num, sign}, []impl.Node{num, sign, num}, []impl.Node{num, num, sign, sign})
		} else {
			out = append(out, []impl.Node{num, num, sign})
		}
		for _, odd := range []impl.Node{{Kind: kind, Num: 1}, {Kind: kind, Num: -1}, {Kind: kind, Name: "x"}} {
			out = append(out, []impl.Node{num, odd}, []impl.Node{num, num, odd})
		}
	}
	return out
}

func TestP1NodesThatNoTextGives(t *testing.T) {
	for _, list := range wrongNodes() {
		if s := impl.ExprPut(list); s != "" {
			t.Errorf("%v is written %q", list[:min(len(list), 30)], s)
		}
		if n := impl.ExprRun(list, []string{"x"}, []int{5}); n != 0 {
			t.Errorf("%v comes to %d", list[:min(len(list), 30)], n)
		}
	}
}

// checkSame says what promise 2 says of one text that is read.
func checkSame(t *testing.T, s string, list []impl.Node) {
	t.Helper()
	put := impl.ExprPut(list)
	again, ok := impl.ExprGet(put)
	if put == "" || !ok || !slices.Equal(again, list) || strings.Contains(put, " ") || len(put) > len(s) {
		t.Fatalf("%q is written %q, and that read %v %v", s, put, again, ok)
	}
	for _, wide := range []string{" " + s, s + " "} {
		got, ok := impl.ExprGet(wide)
		if ok != (len(wide) <= impl.ExprMax) || ok && !slices.Equal(got, list) {
			t.Fatalf("%q is read %v %v", wide, got, ok)
		}
	}
}

func TestP2LooseTextsAreReadAsTheSame(t *testing.T) {
	r := rand.New(rand.NewSource(2))
	read := 0
	for range 40000 {
		x := someTree(r, 1+r.Intn(12))
		s := x.loose(r)
		list, ok := impl.ExprGet(s)
		if ok != (len(s) <= impl.ExprMax && deepOf(s) <= impl.DeepMax) || ok && !slices.Equal(list, x.nodes()) {
			t.Fatalf("%q is read %v %v", s, list, ok)
		}
		if ok {
			read++
			checkSame(t, s, list)
		}
	}
	if read < 10000 {
		t.Error("too few were read:", read)
	}
}

func TestP2AnyTexts(t *testing.T) {
	r := rand.New(rand.NewSource(3))
	const bytes = "01x((()))--!!*/%+<===&|  a\t=\x00\xff"
	read := 0
	for range 300000 {
		s := make([]byte, r.Intn(10))
		for i := range s {
			s[i] = bytes[r.Intn(len(bytes))]
		}
		if list, ok := impl.ExprGet(string(s)); ok {
			read++
			checkSame(t, string(s), list)
		} else if list != nil {
			t.Fatalf("%q: %v beside false", s, list)
		}
	}
	if read < 1000 {
		t.Error("too few were read:", read)
	}
}

func TestP2Texts(t *testing.T) {
	texts := map[string]string{
		"0":                "0",
		"999999":           "999999",
		"  x  ":            "x",
		"((((((x))))))":    "x",
		"( ( 1 ) + ( 2 ))": "1+2",
		"1-2-3":            "1-2-3",
		"(1-2)-3":          "1-2-3",
		"1-(2-3)":          "1-(2-3)",
		"1+(2+3)":          "1+(2+3)",
		"2*(3*4)":          "2*(3*4)",
		"(2*3)*4":          "2*3*4",
		"6/(3*2)":          "6/(3*2)",
		"6/3%2":            "6/3%2",
		"1+(2*3)":          "1+2*3",
		"(1+2)*3":          "(1+2)*3",
		"3*(1+2)":          "3*(1+2)",
		"x<(y+1)":          "x<y+1",
		"(x<y)+1":          "(x<y)+1",
		"x < y == z":       "x<y==z",
		"x<(y==z)":         "x<(y==z)",
		"x==(y<z)":         "x==(y<z)",
		"(a|b)&c":          "(a|b)&c",
		"a|(b&c)":          "a|b&c",
		"a|(b|c)":          "a|(b|c)",
		"(a|b)|c":          "a|b|c",
		"a&(b&c)":          "a&(b&c)",
		"(a&b)<c":          "(a&b)<c",
		"a&(b<c)":          "a&b<c",
		"-(-x)":            "--x",
		"!(-(!x))":         "!-!x",
		"-(x)*2":           "-x*2",
		"-(x*2)":           "-(x*2)",
		"2*(-x)":           "2*-x",
		"1-(-1)":           "1--1",
		"1 - - 1":          "1--1",
		"!(x==1)":          "!(x==1)",
		"(!x)==1":          "!x==1",
		"(-x)%(-y)":        "-x%-y",
		"- ! - 1":          "-!-1",
		"a1b2c3+a":         "a1b2c3+a",
	}
	for s, want := range texts {
		list, ok := impl.ExprGet(s)
		if got := impl.ExprPut(list); !ok || got != want {
			t.Errorf("%q is written %q, %v, not %q", s, got, ok, want)
			continue
		}
		checkSame(t, s, list)
	}
}

func TestP2NodesOfTexts(t *testing.T) {
	want := []impl.Node{
		{Kind: impl.NodeName, Name: "ab"}, {Kind: impl.NodeNeg}, {Kind: impl.NodeNum, Num: 2}, {Kind: impl.NodeMul},
		{Kind: impl.NodeNum, Num: 3}, {Kind: impl.NodeDiv}, {Kind: impl.NodeNum, Num: 4}, {Kind: impl.NodeRest},
		{Kind: impl.NodeNum, Num: 5}, {Kind: impl.NodeAdd}, {Kind: impl.NodeNum, Num: 6}, {Kind: impl.NodeSub},
		{Kind: impl.NodeNum, Num: 7}, {Kind: impl.NodeLess}, {Kind: impl.NodeNum, Num: 8}, {Kind: impl.NodeNot}, {Kind: impl.NodeSame},
		{Kind: impl.NodeNum, Num: 9}, {Kind: impl.NodeAnd}, {Kind: impl.NodeNum, Num: 0}, {Kind: impl.NodeOr},
	}
	if got, ok := impl.ExprGet("-ab*2/3%4+5-6<7==!8&9|0"); !ok || !slices.Equal(got, want) {
		t.Error(got, ok)
	}
}

func TestP2LimitsOfReading(t *testing.T) {
	sizes := map[string]bool{
		strings.Repeat(" ", 59) + "x":                     true,
		strings.Repeat(" ", 60) + "x":                     false,
		"x" + strings.Repeat(" ", 59):                     true,
		"x" + strings.Repeat(" ", 60):                     false,
		strings.Repeat("999999+", 8) + "1234":             true,
		strings.Repeat("999999+", 8) + "12345":            false,
		strings.Repeat("-", 23) + "x":                     true,
		strings.Repeat("-", 24) + "x":                     false,
		strings.Repeat("1+", 11) + "-1":                   true,
		strings.Repeat("1+", 11) + "--1":                  false,
		strings.Repeat("1+", 12) + "1":                    false,
		"((((((1))))))":                                   true,
		"(((((((1)))))))":                                 false,
		"((((((1))))))+((((((1))))))":                     true,
		"((((((1))))))+(((((((1)))))))":                   false,
		"(((((((1)))))))+1":                               false,
		"(1)+(1)+(1)+(1)+(1)+(1)+(1)+(1)":                 true,
		"1-(1-(1-(1-(1-(1-(1-1))))))":                     true,
		"1-(1-(1-(1-(1-(1-(1-(1-1)))))))":                 false,
		"!(!(!(!(!(!(x))))))":                             true,
		"!(!(!(!(!(!(!(x)))))))":                          false,
		"abcdef":                                          true,
		"abcdefg":                                         false,
		"1000000":                                         false,
		strings.Repeat("(", 30) + strings.Repeat(")", 30): false,
	}
	for s, want := range sizes {
		list, ok := impl.ExprGet(s)
		if ok != want || !ok && list != nil {
			t.Errorf("%q is read %v %v", s, list, ok)
		}
	}
	if list, ok := impl.ExprGet(strings.Repeat("(", 1<<20)); ok || list != nil {
		t.Error("a long text is read")
	}
}

// wrongTexts is texts that are no sum.
var wrongTexts = []string{
	"", " ", "()", "( )", "(", ")", "(1", "1)", ")1(", "1(", "(1)(2)", "1(2)", "(1)2", "x(1)", "1 2", "x y", "1 x", "x 1", "1x", "0x", "1_0",
	"00", "01", "000000", "0000001", "1000000", "9999999", "123 456", "ab cd", "abcdefg", "abc def",
	"X", "xY", "Xy", "_x", "x.", "1.5", "é", "x\xff", "\x00", "x\x00", "x\t", "\tx", "x\n", "1\n+2", "x\r", "x\u00a0",
	"+1", "*1", "/1", "%1", "<1", "==1", "&1", "|1", "1+", "1-", "1*", "1/", "1%", "1<", "1==", "1&", "1|", "-", "!", "1-!", "--",
	"1++2", "1+*2", "1**2", "1!2", "1!", "x!", "1=2", "x = = 1", "x= =1", "x=", "=1", "x===1", "x!=1", "x>1", "x<=1", "1<<2", "a&&b", "a||b", "x^1", "~x", "1,2", "1;", "\"x\"",
}

func TestP2TextsThatAreNoSum(t *testing.T) {
	for _, s := range wrongTexts {
		if list, ok := impl.ExprGet(s); ok || list != nil {
			t.Errorf("%q is read %v %v", s, list, ok)
		}
	}
}

func TestP3SumsComeToWhatTheyAre(t *testing.T) {
	names := []string{"x", "y", "low", "high"}
	vals := []int{7, -3, lowest, highest}
	texts := map[string]int{
		"1+2*3": 7, "(1+2)*3": 9, "1-2-3": -4, "1-(2-3)": 2, "8/4/2": 1, "8/(4/2)": 4, "17%10%4": 3,
		"x/y": -2, "-x/y": 2, "x/-y": 2, "-x/-y": -2, "x%y": 1, "-x%y": -1, "x%-y": 1, "-x%-y": -1,
		"x/0": 0, "x%0": 0, "0/0": 0, "0%0": 0, "-x/0": 0, "-x%0": 0, "low/0": 0, "low%0": 0, "x/(y+3)": 0,
		"low/-1": lowest, "low%-1": 0, "-low": lowest, "-high": -highest, "high+1": lowest, "low-1": highest,
		"high*high": 1, "low*low": 0, "low*-1": lowest, "high+high": -2, "low+low": 0, "999999*999999": -729379967,
		"low/2": -1073741824, "high/-1": -highest, "low<high": 1, "high<low": 0, "low<-high": 1, "x<7": 0, "x<8": 1, "y<0": 1, "0<y": 0,
		"x==7": 1, "x==8": 0, "low==-low": 1, "!0": 1, "!1": 0, "!x": 0, "!y": 0, "!!y": 1, "!low": 0, "-!0": -1, "!-0": 1,
		"2&4": 1, "1&2": 1, "2&0": 0, "0&2": 0, "0&0": 0, "y&low": 1, "2|4": 1, "2|0": 1, "0|y": 1, "0|0": 0,
		"1|0&0": 1, "(1|0)&0": 0, "2<1==0": 1, "2<(1==0)": 0, "x==7<2": 1, "1+1<2": 0, "-x*2": -14, "-(x+y)": -4, "--x": 7, "none": 0, "none+x": 7,
	}
	for s, want := range texts {
		if got := impl.ExprRun(mustGet(s), names, vals); got != want {
			t.Errorf("%s comes to %d, not %d", s, got, want)
		}
	}
}

func TestP3SumsComeToNumbersOf32Bits(t *testing.T) {
	r := rand.New(rand.NewSource(4))
	names := []string{"x", "y", "a", "b1", "zzzzzz"}
	for range 60000 {
		x := someTree(r, 1+r.Intn(14))
		list := x.nodes()
		if impl.ExprPut(list) == "" {
			continue
		}
		vals := someValues(r, len(names))
		got := impl.ExprRun(list, names, vals)
		if got != x.value(names, vals) || got < lowest || got > highest {
			t.Fatalf("%q with %v comes to %d, not %d", x.text(), vals, got, x.value(names, vals))
		}
		if more := impl.ExprRun(list, append(names[:5:5], "other"), append(vals[:5:5], someValue(r))); more != got {
			t.Fatalf("%q with %v and one more comes to %d, not %d", x.text(), vals, more, got)
		}
		turned := impl.ExprRun(list, []string{"other", "zzzzzz", "b1", "a", "y", "x"}, []int{1, vals[4], vals[3], vals[2], vals[1], vals[0]})
		if turned != got {
			t.Fatalf("%q with %v turned comes to %d, not %d", x.text(), vals, turned, got)
		}
	}
}

func TestP3SmallSums(t *testing.T) {
	for _, x := range upToThreeSigns() {
		for _, val := range []int{0, -3, 2, lowest} {
			if got := impl.ExprRun(x.nodes(), []string{"x"}, []int{val}); got != x.value([]string{"x"}, []int{val}) {
				t.Fatalf("%q with %d comes to %d", x.text(), val, got)
			}
		}
	}
}

func TestP4NamesComeToValues(t *testing.T) {
	x := []impl.Node{{Kind: impl.NodeName, Name: "x"}}
	cases := []struct {
		names []string
		vals  []int
		want  int
	}{
		{[]string{"x"}, []int{5}, 5},
		{[]string{"x"}, []int{lowest}, lowest},
		{[]string{"x"}, []int{highest}, highest},
		{[]string{"x"}, []int{highest + 1}, lowest},
		{[]string{"x"}, []int{lowest - 1}, highest},
		{[]string{"x"}, []int{1<<32 + 9}, 9},
		{[]string{"y", "x"}, []int{5, 6}, 6},
		{[]string{"x", "x"}, []int{5, 6}, 5},
		{[]string{"y", "x", "x"}, []int{5, 6, 7}, 6},
		{[]string{"y", "x"}, []int{5}, 0},
		{[]string{"x", "x"}, []int{}, 0},
		{[]string{"x"}, nil, 0},
		{[]string{"y"}, []int{5}, 0},
		{nil, []int{5}, 0},
		{nil, nil, 0},
		{[]string{"x"}, []int{5, 6, 7}, 5},
		{[]string{"", "X", "xx", "x ", "x"}, []int{1, 2, 3, 4, 5}, 5},
		{slices.Repeat([]string{"y"}, 1000), []int{1}, 0},
	}
	for _, c := range cases {
		if got := impl.ExprRun(x, c.names, c.vals); got != c.want {
			t.Errorf("x of %v, %v comes to %d, not %d", c.names, c.vals, got, c.want)
		}
	}
}

func TestExprLeavesItsArguments(t *testing.T) {
	odd := impl.Node{Kind: 99, Num: 99, Name: "odd"}
	for _, s := range []string{"1+2*x", "-x", "7", "!(x<y)|z"} {
		list := guarded(mustGet(s), odd)
		names := guarded([]string{"x", "y"}, "odd")
		vals := guarded([]int{1 << 40, 2}, 99)
		if put := impl.ExprPut(list); put != s {
			t.Errorf("%q is written %q", s, put)
		}
		impl.ExprRun(list, names, vals)
		if !slices.Equal(list, mustGet(s)) || behind(list) != odd {
			t.Errorf("%q: nodes are now %v", s, list)
		}
		if !slices.Equal(names, []string{"x", "y"}) || behind(names) != "odd" || !slices.Equal(vals, []int{1 << 40, 2}) || behind(vals) != 99 {
			t.Errorf("%q: names and values are now %v %v", s, names, vals)
		}
	}
	one, two := mustGet("x+1"), mustGet("x+1")
	one[0].Name = "y"
	if two[0].Name != "x" || mustGet("x+1")[0].Name != "x" {
		t.Error("two answers share memory")
	}
}
