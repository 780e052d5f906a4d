package tests

import (
	"fmt"
	"math/rand"
	"slices"
	"testing"

	"loop.example/telltale/impl"
)

func num(n int) impl.Op { return impl.Op{Kind: impl.NodeNum, Num: n} }

func slot(n int) impl.Op { return impl.Op{Kind: impl.NodeName, Num: n} }

func sign(kind int) impl.Op { return impl.Op{Kind: kind} }

func manyNames(size int) []string {
	var out []string
	for i := range size {
		out = append(out, fmt.Sprint("n", i))
	}
	return out
}

func TestP5CodeOfSums(t *testing.T) {
	names := []string{"y", "x", "x", "z"}
	texts := map[string][]impl.Op{
		"7":                          {num(7)},
		"x":                          {slot(1)},
		"z":                          {slot(3)},
		"-1":                         {num(-1)},
		"--1":                        {num(1)},
		"!0":                         {num(1)},
		"!5":                         {num(0)},
		"-x":                         {slot(1), sign(impl.NodeNeg)},
		"!x":                         {slot(1), sign(impl.NodeNot)},
		"--x":                        {slot(1), sign(impl.NodeNeg), sign(impl.NodeNeg)},
		"2*3":                        {num(6)},
		"7/2":                        {num(3)},
		"-7/2":                       {num(-3)},
		"-7%4":                       {num(-3)},
		"7/0":                        {num(0)},
		"7%0":                        {num(0)},
		"2-5":                        {num(-3)},
		"2<5":                        {num(1)},
		"2==5":                       {num(0)},
		"2&5":                        {num(1)},
		"0|0":                        {num(0)},
		"1+2*3-4":                    {num(3)},
		"999999*999999":              {num(-729379967)},
		"999999*999999*10":           {num(1296134922)},
		"-(999999*2147)-485795":      {num(lowest)},
		"-(999999*2147)-485796":      {num(highest)},
		"-(-(999999*2147)-485795)":   {num(lowest)},
		"(-(999999*2147)-485795)/-1": {num(lowest)},
		"(-(999999*2147)-485795)%-1": {num(0)},
		"x+y":                        {slot(1), slot(0), sign(impl.NodeAdd)},
		"y-x":                        {slot(0), slot(1), sign(impl.NodeSub)},
		"x+2+3":                      {slot(1), num(2), sign(impl.NodeAdd), num(3), sign(impl.NodeAdd)},
		"x+(2+3)":                    {slot(1), num(5), sign(impl.NodeAdd)},
		"2+3+x":                      {num(5), slot(1), sign(impl.NodeAdd)},
		"2*x*3":                      {num(2), slot(1), sign(impl.NodeMul), num(3), sign(impl.NodeMul)},
		"2+x":                        {num(2), slot(1), sign(impl.NodeAdd)},
		"x+2":                        {slot(1), num(2), sign(impl.NodeAdd)},
		"2*3+x*(4-5)":                {num(6), slot(1), num(-1), sign(impl.NodeMul), sign(impl.NodeAdd)},
		"-x+-1":                      {slot(1), sign(impl.NodeNeg), num(-1), sign(impl.NodeAdd)},
		"x+2*3-!0":                   {slot(1), num(6), sign(impl.NodeAdd), num(1), sign(impl.NodeSub)},
		"x&0":                        {slot(1), num(0), sign(impl.NodeAnd)},
		"x-x":                        {slot(1), slot(1), sign(impl.NodeSub)},
	}
	for s, want := range texts {
		got, ok := impl.CodeOf(mustGet(s), names)
		if !ok || !slices.Equal(got, want) {
			t.Errorf("%s: %v %v, not %v", s, got, ok, want)
		}
	}
}

func TestP5CodeOfWhatHasNone(t *testing.T) {
	for _, list := range wrongNodes() {
		if code, ok := impl.CodeOf(list, []string{"x"}); ok || code != nil {
			t.Errorf("%v: %v %v", list[:min(len(list), 30)], code, ok)
		}
	}
	for _, names := range [][]string{nil, {"y"}, {"xx"}, {""}, {"x1", "X"}} {
		if code, ok := impl.CodeOf(mustGet("1+x"), names); ok || code != nil {
			t.Errorf("%v has no x: %v", names, code)
		}
	}
	if code, ok := impl.CodeOf(mustGet("x+y"), []string{"x"}); ok || code != nil {
		t.Error("a name of two is not there:", code)
	}
}

func TestP5LimitsOfCode(t *testing.T) {
	for _, s := range []string{"1", "n0", "n15", "n0+n15"} {
		if code, ok := impl.CodeOf(mustGet(s), manyNames(impl.SlotMax)); !ok || impl.CodeDeep(code, impl.SlotMax) < 1 {
			t.Errorf("%s of %d names: %v %v", s, impl.SlotMax, code, ok)
		}
		if code, ok := impl.CodeOf(mustGet(s), manyNames(impl.SlotMax+1)); ok || code != nil {
			t.Errorf("%s of %d names: %v", s, impl.SlotMax+1, code)
		}
	}
	if code, ok := impl.CodeOf(mustGet("1"), nil); !ok || len(code) != 1 {
		t.Error("a sum without names needs none:", code, ok)
	}
	if code, ok := impl.CodeOf(mustGet("n"), []string{"n", "n"}); !ok || code[0] != slot(0) {
		t.Error("the first place of a name:", code, ok)
	}
}

// checkCode says what promise 5 says of one sum.
func checkCode(t *testing.T, x *tree, names []string, vals []int) {
	t.Helper()
	list := x.nodes()
	code, ok := impl.CodeOf(list, names)
	if !ok || !slices.Equal(code, x.code(names)) {
		t.Fatalf("%q: %v %v, not %v", x.text(), code, ok, x.code(names))
	}
	deep := impl.CodeDeep(code, len(names))
	if deep < 1 || deep > len(code) || len(code) > len(list) {
		t.Fatalf("%q: %v is %d deep", x.text(), code, deep)
	}
	got := impl.CodeRun(code, vals)
	if got != x.value(names, vals) || got != impl.ExprRun(list, names, vals) {
		t.Fatalf("%q with %v: %d, not %d", x.text(), vals, got, x.value(names, vals))
	}
}

func TestP5CodeComesToWhatItsSumComesTo(t *testing.T) {
	t.Parallel()
	for _, x := range upToThreeSigns() {
		for _, val := range []int{0, -3, lowest, highest + 1} {
			checkCode(t, x, []string{"x"}, []int{val})
		}
	}
	r := rand.New(rand.NewSource(5))
	names := []string{"x", "x", "y", "a", "other", "b1", "zzzzzz"}
	for range 60000 {
		x := someTree(r, 1+r.Intn(14))
		if impl.ExprPut(x.nodes()) != "" {
			checkCode(t, x, names, someValues(r, len(names)))
		}
	}
}

func TestP6DeepOfCode(t *testing.T) {
	add, not := sign(impl.NodeAdd), sign(impl.NodeNot)
	cases := []struct {
		code  []impl.Op
		slots int
		want  int
	}{
		{[]impl.Op{num(1)}, 0, 1},
		{[]impl.Op{slot(0)}, 1, 1},
		{[]impl.Op{slot(15)}, impl.SlotMax, 1},
		{[]impl.Op{num(1), not, not}, 0, 1},
		{[]impl.Op{num(1), num(2), add}, 0, 2},
		{[]impl.Op{num(1), num(2), add, num(3), add}, 0, 2},
		{[]impl.Op{num(1), num(2), num(3), add, add}, 0, 3},
		{[]impl.Op{num(1), num(2), not, num(3), add, add}, 0, 3},
		{[]impl.Op{num(1), num(2), num(3), num(4), add, add, add}, 0, 4},
		{[]impl.Op{num(lowest)}, 0, 1},
		{[]impl.Op{num(highest)}, 0, 1},
		{[]impl.Op{num(lowest - 1)}, 0, -1},
		{[]impl.Op{num(highest + 1)}, 0, -1},
		{nil, 0, -1},
		{[]impl.Op{}, 5, -1},
		{[]impl.Op{num(1), num(2)}, 0, -1},
		{[]impl.Op{num(1), num(2), num(3), add}, 0, -1},
		{[]impl.Op{slot(0)}, 0, -1},
		{[]impl.Op{slot(1)}, 1, -1},
		{[]impl.Op{slot(-1)}, 5, -1},
		{[]impl.Op{slot(16)}, impl.SlotMax, -1},
		{[]impl.Op{num(1)}, impl.SlotMax, 1},
		{[]impl.Op{num(1)}, impl.SlotMax + 1, -1},
		{[]impl.Op{num(1)}, -1, -1},
		{[]impl.Op{not}, 0, -1},
		{[]impl.Op{not, num(1)}, 0, -1},
		{[]impl.Op{num(1), add}, 0, -1},
		{[]impl.Op{num(1), add, num(1)}, 0, -1},
		{[]impl.Op{add, num(1), num(1)}, 0, -1},
		{[]impl.Op{num(1), sign(0)}, 0, -1},
		{[]impl.Op{num(1), sign(-1)}, 0, -1},
		{[]impl.Op{num(1), num(1), sign(14)}, 0, -1},
		{[]impl.Op{num(1), num(1), sign(1 << 40)}, 0, -1},
	}
	for _, c := range cases {
		if got := impl.CodeDeep(c.code, c.slots); got != c.want {
			t.Errorf("%v of %d is %d deep, not %d", c.code, c.slots, got, c.want)
		}
	}
	for kind := impl.NodeNeg; kind <= impl.NodeOr; kind++ {
		code := []impl.Op{num(1), num(2), sign(kind)}
		if kind < impl.NodeMul {
			code = []impl.Op{num(1), sign(kind)}
		}
		last := len(code) - 1
		if got := impl.CodeDeep(code, 0); got != last {
			t.Errorf("%v is %d deep", code, got)
		}
		for _, odd := range []int{1, -1} {
			code[last].Num = odd
			if impl.CodeDeep(code, 5) != -1 || impl.CodeRun(code, []int{1, 2, 3, 4, 5}) != 0 {
				t.Errorf("%v is not ok", code)
			}
		}
	}
}

func TestP6LimitsOfDeep(t *testing.T) {
	pairs := append(slices.Repeat([]impl.Op{num(1)}, 12), slices.Repeat([]impl.Op{sign(impl.NodeAdd)}, 11)...)
	if deep, got := impl.CodeDeep(append(pairs, sign(impl.NodeNeg)), 0), impl.CodeRun(append(pairs, sign(impl.NodeNeg)), nil); deep != 12 || got != -12 {
		t.Error(impl.NodeMax, "ops:", deep, got)
	}
	more := append(pairs, sign(impl.NodeNeg), sign(impl.NodeNeg))
	if deep, got := impl.CodeDeep(more, 0), impl.CodeRun(more, nil); deep != -1 || got != 0 {
		t.Error(impl.NodeMax+1, "ops:", deep, got)
	}
	if impl.CodeDeep(slices.Repeat([]impl.Op{num(1)}, 1<<20), 0) != -1 {
		t.Error("much code is ok")
	}
}

func TestP6RunOfCode(t *testing.T) {
	add := sign(impl.NodeAdd)
	cases := []struct {
		code []impl.Op
		vals []int
		want int
	}{
		{[]impl.Op{num(5)}, nil, 5},
		{[]impl.Op{num(highest), num(1), add}, nil, lowest},
		{[]impl.Op{slot(0), slot(1), sign(impl.NodeSub)}, []int{9, 4}, 5},
		{[]impl.Op{slot(1), slot(0), sign(impl.NodeSub)}, []int{9, 4}, -5},
		{[]impl.Op{slot(0), slot(1), sign(impl.NodeLess)}, []int{9, 4}, 0},
		{[]impl.Op{slot(0)}, []int{highest + 1}, lowest},
		{[]impl.Op{slot(0)}, []int{1<<32 + 3}, 3},
		{[]impl.Op{slot(0)}, []int{-1 << 63}, 0},
		{[]impl.Op{slot(0), num(-1), sign(impl.NodeDiv)}, []int{lowest}, lowest},
		{[]impl.Op{slot(0), num(-1), sign(impl.NodeRest)}, []int{lowest}, 0},
		{[]impl.Op{num(5), slot(0), sign(impl.NodeDiv)}, []int{0}, 0},
		{[]impl.Op{num(5), slot(0), sign(impl.NodeRest)}, []int{1 << 32}, 0},
		{[]impl.Op{slot(0)}, nil, 0},
		{[]impl.Op{num(5), slot(1), add}, []int{7}, 0},
		{[]impl.Op{num(5), slot(-1), add}, []int{7}, 0},
		{[]impl.Op{num(5)}, make([]int, impl.SlotMax), 5},
		{[]impl.Op{num(5)}, make([]int, impl.SlotMax+1), 0},
		{[]impl.Op{num(highest + 1)}, nil, 0},
		{[]impl.Op{num(5), num(6)}, nil, 0},
		{[]impl.Op{num(5), add}, nil, 0},
		{[]impl.Op{num(5), sign(14)}, nil, 0},
		{[]impl.Op{num(5), sign(-3)}, nil, 0},
		{nil, []int{1}, 0},
	}
	for _, c := range cases {
		if got := impl.CodeRun(c.code, c.vals); got != c.want {
			t.Errorf("%v of %v comes to %d, not %d", c.code, c.vals, got, c.want)
		}
	}
}

// runs is how deep code is, and what it comes to, worked out here anew.
func runs(code []impl.Op, vals []int) (int, int) {
	var stand []int
	most := 0
	for _, op := range code {
		size := len(stand)
		switch {
		case op.Kind == impl.NodeNum && op.Num >= lowest && op.Num <= highest:
			stand = append(stand, op.Num)
		case op.Kind == impl.NodeName && op.Num >= 0 && op.Num < len(vals):
			stand = append(stand, wrap32(vals[op.Num]))
		case op.Kind >= impl.NodeNeg && op.Kind <= impl.NodeNot && op.Num == 0 && size > 0:
			stand[size-1] = signed(op.Kind, 0, stand[size-1])
		case op.Kind >= impl.NodeMul && op.Kind <= impl.NodeOr && op.Num == 0 && size > 1:
			stand = append(stand[:size-2], signed(op.Kind, stand[size-2], stand[size-1]))
		default:
			return -1, 0
		}
		most = max(most, len(stand))
	}
	if len(stand) != 1 || len(code) > impl.NodeMax || len(vals) > impl.SlotMax {
		return -1, 0
	}
	return most, stand[0]
}

// someOp is mostly an op that can be, where so many numbers stand.
func someOp(r *rand.Rand, stand int) (impl.Op, int) {
	switch pick := r.Intn(40); {
	case pick == 0:
		return impl.Op{Kind: r.Intn(18) - 2, Num: r.Intn(5) - 2}, stand
	case pick == 1:
		return impl.Op{Kind: r.Intn(16), Num: someValue(r)}, stand
	case stand >= 2 && pick < 20:
		return sign(impl.NodeMul + r.Intn(9)), stand - 1
	case stand >= 1 && pick < 26:
		return sign(impl.NodeNeg + r.Intn(2)), stand
	case pick < 34:
		return slot(r.Intn(4)), stand + 1
	}
	return num(wrap32(someValue(r))), stand + 1
}

func TestP6AnyCode(t *testing.T) {
	r := rand.New(rand.NewSource(6))
	fine := 0
	for range 200000 {
		var code []impl.Op
		var op impl.Op
		stand := 0
		for range r.Intn(impl.NodeMax + 2) {
			op, stand = someOp(r, stand)
			code = append(code, op)
		}
		for ; stand > 1 && len(code) < impl.NodeMax; stand-- {
			code = append(code, sign(impl.NodeMul+r.Intn(9)))
		}
		vals := someValues(r, r.Intn(impl.SlotMax+2))
		deep, want := runs(code, vals)
		got := impl.CodeRun(code, vals)
		if impl.CodeDeep(code, len(vals)) != deep || got != want || got < lowest || got > highest {
			t.Fatalf("%v of %v: %d, %d, not %d, %d", code, vals, impl.CodeDeep(code, len(vals)), got, deep, want)
		}
		if deep == -1 {
			continue
		}
		fine++
		wide := append(vals[:len(vals):len(vals)], someValue(r))
		if len(wide) <= impl.SlotMax && (impl.CodeDeep(code, len(wide)) != deep || impl.CodeRun(code, wide) != got) {
			t.Fatalf("%v of %v and one more: %d, %d", code, vals, impl.CodeDeep(code, len(wide)), impl.CodeRun(code, wide))
		}
	}
	if fine < 20000 {
		t.Error("too little code was ok:", fine)
	}
}

func TestCodeLeavesItsArguments(t *testing.T) {
	oddNode, oddOp := impl.Node{Kind: 99, Num: 99, Name: "odd"}, impl.Op{Kind: 99, Num: 99}
	for _, s := range []string{"1+2*3", "x+2*3", "-(x-y)", "!0"} {
		list, names := guarded(mustGet(s), oddNode), guarded([]string{"x", "y"}, "odd")
		made, _ := impl.CodeOf(list, names)
		if !slices.Equal(list, mustGet(s)) || behind(list) != oddNode || behind(names) != "odd" || !slices.Equal(names, []string{"x", "y"}) {
			t.Errorf("%s: nodes and names are now %v %v", s, list, names)
		}
		code, vals := guarded(made, oddOp), guarded([]int{1 << 40, 3}, 99)
		impl.CodeDeep(code, 2)
		impl.CodeRun(code, vals)
		if !slices.Equal(code, made) || behind(code) != oddOp || !slices.Equal(vals, []int{1 << 40, 3}) || behind(vals) != 99 {
			t.Errorf("%s: code and values are now %v %v", s, code, vals)
		}
	}
}
