package tests

import (
	"math/rand"
	"strconv"
	"strings"

	"loop.example/telltale/impl"
)

// tree is a sum as the tests make it: what it is written as, and comes to, is worked out here anew, so that both ways can be held against each other.
type tree struct {
	kind        int
	num         int
	name        string
	left, right *tree
}

const (
	lowest  = -1 << 31
	highest = 1<<31 - 1
)

var signTexts = []string{3: "-", 4: "!", 5: "*", 6: "/", 7: "%", 8: "+", 9: "-", 10: "<", 11: "==", 12: "&", 13: "|"}

var signLevels = []int{1: 9, 2: 9, 3: 8, 4: 8, 5: 7, 6: 7, 7: 7, 8: 6, 9: 6, 10: 5, 11: 5, 12: 4, 13: 3}

func numTree(num int) *tree { return &tree{kind: impl.NodeNum, num: num} }

func nameTree(name string) *tree { return &tree{kind: impl.NodeName, name: name} }

func (t *tree) nodes() []impl.Node {
	switch {
	case t.kind == impl.NodeNum:
		return []impl.Node{{Kind: impl.NodeNum, Num: t.num}}
	case t.kind == impl.NodeName:
		return []impl.Node{{Kind: impl.NodeName, Name: t.name}}
	case t.left == nil:
		return append(t.right.nodes(), impl.Node{Kind: t.kind})
	}
	return append(append(t.left.nodes(), t.right.nodes()...), impl.Node{Kind: t.kind})
}

// text is how the document asks a sum to be written, without its limits.
func (t *tree) text() string {
	switch {
	case t.kind == impl.NodeNum:
		return strconv.Itoa(t.num)
	case t.kind == impl.NodeName:
		return t.name
	case t.left == nil:
		return signTexts[t.kind] + t.right.paren(signLevels[t.right.kind] < signLevels[t.kind])
	}
	left := t.left.paren(signLevels[t.left.kind] < signLevels[t.kind])
	right := t.right.paren(signLevels[t.right.kind] <= signLevels[t.kind])
	return left + signTexts[t.kind] + right
}

func (t *tree) paren(needed bool) string {
	if needed {
		return "(" + t.text() + ")"
	}
	return t.text()
}

// loose is a text of the sum with needless blanks and parentheses.
func (t *tree) loose(r *rand.Rand) string {
	blanks := func() string { return strings.Repeat(" ", r.Intn(2)) }
	wrap := func(s string, needed bool) string {
		if needed || r.Intn(6) == 0 {
			s = blanks() + "(" + s + ")" + blanks()
		}
		return blanks() + s + blanks()
	}
	switch {
	case t.kind == impl.NodeNum || t.kind == impl.NodeName:
		return wrap(t.text(), false)
	case t.left == nil:
		return blanks() + signTexts[t.kind] + wrap(t.right.loose(r), signLevels[t.right.kind] < signLevels[t.kind])
	}
	left := wrap(t.left.loose(r), signLevels[t.left.kind] < signLevels[t.kind])
	right := wrap(t.right.loose(r), signLevels[t.right.kind] <= signLevels[t.kind])
	return left + signTexts[t.kind] + right
}

func deepOf(s string) int {
	open, most := 0, 0
	for _, c := range s {
		if c == '(' {
			open++
		} else if c == ')' {
			open--
		}
		most = max(most, open)
	}
	return most
}

func wrap32(n int) int {
	n &= 1<<32 - 1
	if n > highest {
		n -= 1 << 32
	}
	return n
}

func bit(b bool) int {
	if b {
		return 1
	}
	return 0
}

// signed is what a sign makes of numbers of 32 bits, worked out in 64.
func signed(kind, a, b int) int {
	switch kind {
	case impl.NodeNeg:
		return wrap32(-b)
	case impl.NodeNot:
		return bit(b == 0)
	case impl.NodeMul:
		return wrap32(a * b)
	case impl.NodeDiv, impl.NodeRest:
		if b == 0 {
			return 0
		}
		if kind == impl.NodeDiv {
			return wrap32(a / b)
		}
		return wrap32(a % b)
	case impl.NodeAdd:
		return wrap32(a + b)
	case impl.NodeSub:
		return wrap32(a - b)
	case impl.NodeLess:
		return bit(a < b)
	case impl.NodeSame:
		return bit(a == b)
	case impl.NodeAnd:
		return bit(a != 0 && b != 0)
	}
	return bit(a != 0 || b != 0)
}

func (t *tree) value(names []string, vals []int) int {
	switch t.kind {
	case impl.NodeNum:
		return t.num
	case impl.NodeName:
		for i, name := range names {
			if name == t.name {
				if i < len(vals) {
					return wrap32(vals[i])
				}
				return 0
			}
		}
		return 0
	}
	left := 0
	if t.left != nil {
		left = t.left.value(names, vals)
	}
	return signed(t.kind, left, t.right.value(names, vals))
}

func (t *tree) numbersAlone() bool {
	return t == nil || t.kind == impl.NodeNum || t.kind != impl.NodeName && t.left.numbersAlone() && t.right.numbersAlone()
}

// code is the code that the document asks for, if names has all names of the sum.
func (t *tree) code(names []string) []impl.Op {
	if t == nil {
		return nil
	}
	if t.numbersAlone() {
		return []impl.Op{{Kind: impl.NodeNum, Num: t.value(nil, nil)}}
	}
	if t.kind == impl.NodeName {
		for i, name := range names {
			if name == t.name {
				return []impl.Op{{Kind: impl.NodeName, Num: i}}
			}
		}
	}
	return append(append(t.left.code(names), t.right.code(names)...), impl.Op{Kind: t.kind})
}

// smallTrees is all sums with so many signs, of the leaves 2 and x.
func smallTrees(signs int) []*tree {
	if signs == 0 {
		return []*tree{numTree(2), nameTree("x")}
	}
	var out []*tree
	for _, right := range smallTrees(signs - 1) {
		for kind := impl.NodeNeg; kind <= impl.NodeNot; kind++ {
			out = append(out, &tree{kind: kind, right: right})
		}
	}
	for n := 0; n < signs; n++ {
		rights := smallTrees(signs - 1 - n)
		for _, left := range smallTrees(n) {
			for _, right := range rights {
				for kind := impl.NodeMul; kind <= impl.NodeOr; kind++ {
					out = append(out, &tree{kind: kind, left: left, right: right})
				}
			}
		}
	}
	return out
}

func upToThreeSigns() []*tree {
	var out []*tree
	for signs := 0; signs <= 3; signs++ {
		out = append(out, smallTrees(signs)...)
	}
	return out
}

// someTree is any sum of so many nodes.
func someTree(r *rand.Rand, nodes int) *tree {
	if nodes == 1 {
		if r.Intn(2) == 0 {
			return nameTree([]string{"x", "y", "a", "b1", "zzzzzz"}[r.Intn(5)])
		}
		return numTree([]int{0, 1, 2, 7, 10, 65536, 999999, r.Intn(1000000)}[r.Intn(8)])
	}
	if nodes == 2 || r.Intn(4) == 0 {
		return &tree{kind: impl.NodeNeg + r.Intn(2), right: someTree(r, nodes-1)}
	}
	left := 1 + r.Intn(nodes-2)
	return &tree{kind: impl.NodeMul + r.Intn(9), left: someTree(r, left), right: someTree(r, nodes-1-left)}
}

// someValue is a value that is often at an edge, and sometimes not of 32 bits.
func someValue(r *rand.Rand) int {
	edges := []int{0, 1, -1, 2, -2, 7, -7, lowest, highest, lowest - 1, highest + 1, 1 << 32, 1<<32 + 5, -1 << 63, 1<<63 - 1}
	if r.Intn(3) == 0 {
		return int(r.Uint64())
	}
	return edges[r.Intn(len(edges))]
}

func someValues(r *rand.Rand, size int) []int {
	out := make([]int, size)
	for i := range out {
		out[i] = someValue(r)
	}
	return out
}

// mustGet is the nodes of a text that is a sum.
func mustGet(s string) []impl.Node {
	list, ok := impl.ExprGet(s)
	if !ok {
		panic("not read: " + s)
	}
	return list
}

// guarded is a list with a known one in the room behind its end.
func guarded[T any](list []T, guard T) []T {
	out := append(append([]T(nil), list...), guard)
	return out[:len(list)]
}

// behind is what stands in the room behind the end of a guarded list.
func behind[T any](list []T) T {
	return list[:len(list)+1][len(list)]
}
