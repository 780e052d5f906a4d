package impl

import (
	"slices"
	"strconv"
	"strings"
)

// Kinds of nodes, and limits of sums.
const (
	NodeNum  = 1
	NodeName = 2
	NodeNeg  = 3
	NodeNot  = 4
	NodeMul  = 5
	NodeDiv  = 6
	NodeRest = 7
	NodeAdd  = 8
	NodeSub  = 9
	NodeLess = 10
	NodeSame = 11
	NodeAnd  = 12
	NodeOr   = 13
	NameMax  = 6
	NodeMax  = 24
	DeepMax  = 6
	ExprMax  = 60
)

// How tightly parts of a sum bind, the loosest first.
const (
	tightOr = iota + 1
	tightAnd
	tightLess
	tightAdd
	tightMul
	tightAhead
	tightSingle
)

// figuresMax is how many figures a number in a text has at most.
const figuresMax = 6

// Node is a part of a sum: a number, a name, or a sign that is done to what comes ahead.
type Node struct {
	Kind int
	Num  int
	Name string
}

// sign is how a sign is written, and how tightly it binds.
type sign struct {
	text  string
	tight int
}

// signs has the sign of each kind of node that is one.
var signs = [NodeOr + 1]sign{
	NodeNeg:  {"-", tightAhead},
	NodeNot:  {"!", tightAhead},
	NodeMul:  {"*", tightMul},
	NodeDiv:  {"/", tightMul},
	NodeRest: {"%", tightMul},
	NodeAdd:  {"+", tightAdd},
	NodeSub:  {"-", tightAdd},
	NodeLess: {"<", tightLess},
	NodeSame: {"==", tightLess},
	NodeAnd:  {"&", tightAnd},
	NodeOr:   {"|", tightOr},
}

// NameOk says whether a text is a name.
func NameOk(s string) bool {
	if len(s) < 1 || len(s) > NameMax || !isLetter(s[0]) {
		return false
	}
	for i := 1; i < len(s); i++ {
		if !isNameByte(s[i]) {
			return false
		}
	}
	return true
}

// ExprGet reads a sum.
func ExprGet(s string) ([]Node, bool) {
	list, ok := readSum(s)
	if !ok || ExprPut(list) == "" {
		return nil, false
	}
	return list, true
}

// ExprPut writes a sum.
func ExprPut(list []Node) string {
	p, ok := sumOf(list)
	if !ok {
		return ""
	}
	return p.text()
}

// ExprRun is what a sum comes to.
func ExprRun(list []Node, names []string, vals []int) int {
	p, ok := sumOf(list)
	if !ok {
		return 0
	}
	return int(p.value(scope{names: names, vals: vals}))
}

func isLetter(c byte) bool {
	return 'a' <= c && c <= 'z'
}

func isFigure(c byte) bool {
	return '0' <= c && c <= '9'
}

func isNameByte(c byte) bool {
	return isLetter(c) || isFigure(c)
}

// isAhead says whether a kind is a sign that stands ahead of the one part that it takes.
func isAhead(kind int) bool {
	return kind == NodeNeg || kind == NodeNot
}

// isPair says whether a kind is a sign that stands between the two parts that it takes.
func isPair(kind int) bool {
	return NodeMul <= kind && kind <= NodeOr
}

// scope is what names stand for.
type scope struct {
	names []string
	vals  []int
}

func (s scope) valueOf(name string) int32 {
	at := slices.Index(s.names, name)
	if at < 0 || at >= len(s.vals) {
		return 0
	}
	return int32(s.vals[at])
}

// part is a part of a sum with all that it takes.
type part interface {
	tight() int
	nodes(list []Node) []Node
	text() string
	value(s scope) int32
}

type numPart struct {
	num int
}

func (p numPart) tight() int {
	return tightSingle
}

func (p numPart) nodes(list []Node) []Node {
	return append(list, Node{Kind: NodeNum, Num: p.num})
}

func (p numPart) text() string {
	return strconv.Itoa(p.num)
}

func (p numPart) value(s scope) int32 {
	return int32(p.num)
}

type namePart struct {
	name string
}

func (p namePart) tight() int {
	return tightSingle
}

func (p namePart) nodes(list []Node) []Node {
	return append(list, Node{Kind: NodeName, Name: p.name})
}

func (p namePart) text() string {
	return p.name
}

func (p namePart) value(s scope) int32 {
	return s.valueOf(p.name)
}

type aheadPart struct {
	kind int
	of   part
}

func (p aheadPart) tight() int {
	return signs[p.kind].tight
}

func (p aheadPart) nodes(list []Node) []Node {
	return append(p.of.nodes(list), Node{Kind: p.kind})
}

func (p aheadPart) text() string {
	return signs[p.kind].text + textWithin(p.of, p.tight())
}

func (p aheadPart) value(s scope) int32 {
	return aheadValue(p.kind, p.of.value(s))
}

type pairPart struct {
	kind  int
	left  part
	right part
}

func (p pairPart) tight() int {
	return signs[p.kind].tight
}

func (p pairPart) nodes(list []Node) []Node {
	return append(p.right.nodes(p.left.nodes(list)), Node{Kind: p.kind})
}

// text asks more of the right part: signs that bind alike go from the left, so such a one stands bare on the left alone.
func (p pairPart) text() string {
	return textWithin(p.left, p.tight()) + signs[p.kind].text + textWithin(p.right, p.tight()+1)
}

func (p pairPart) value(s scope) int32 {
	return pairValue(p.kind, p.left.value(s), p.right.value(s))
}

// textWithin puts a part in parentheses, if it binds less tightly than it must where it stands.
func textWithin(p part, least int) string {
	if p.tight() < least {
		return "(" + p.text() + ")"
	}
	return p.text()
}

func aheadValue(kind int, of int32) int32 {
	if kind == NodeNeg {
		return -of
	}
	return truth(of == 0)
}

func pairValue(kind int, left int32, right int32) int32 {
	switch kind {
	case NodeMul:
		return left * right
	case NodeDiv:
		return quotient(left, right)
	case NodeRest:
		return remainder(left, right)
	case NodeAdd:
		return left + right
	case NodeSub:
		return left - right
	case NodeLess:
		return truth(left < right)
	case NodeSame:
		return truth(left == right)
	case NodeAnd:
		return truth(left != 0 && right != 0)
	}
	return truth(left != 0 || right != 0)
}

func quotient(left int32, right int32) int32 {
	if right == 0 {
		return 0
	}
	return left / right
}

func remainder(left int32, right int32) int32 {
	if right == 0 {
		return 0
	}
	return left % right
}

func truth(b bool) int32 {
	if b {
		return 1
	}
	return 0
}

// stack is what stands, the last on top.
type stack[T any] struct {
	list []T
}

func (s *stack[T]) push(x T) {
	s.list = append(s.list, x)
}

func (s *stack[T]) pop() (T, bool) {
	if len(s.list) == 0 {
		var none T
		return none, false
	}
	last := len(s.list) - 1
	x := s.list[last]
	s.list = s.list[:last]
	return x, true
}

// sumOf is the part that nodes are, if they can be written. What can be written is what is read back as it was, so reading decides.
func sumOf(list []Node) (part, bool) {
	p, ok := treeOf(list)
	if !ok {
		return nil, false
	}
	back, ok := readSum(p.text())
	if !ok || !slices.Equal(back, list) {
		return nil, false
	}
	return p, true
}

func treeOf(list []Node) (part, bool) {
	if len(list) > NodeMax {
		return nil, false
	}
	var parts stack[part]
	for _, n := range list {
		p, ok := partOf(n, &parts)
		if !ok {
			return nil, false
		}
		parts.push(p)
	}
	if len(parts.list) != 1 {
		return nil, false
	}
	return parts.pop()
}

// partOf takes from the stack what a node takes. A name is looked at here, as a long one would be copied into a text that nobody reads.
func partOf(n Node, parts *stack[part]) (part, bool) {
	if n.Kind == NodeNum {
		return numPart{n.Num}, true
	}
	if n.Kind == NodeName {
		return namePart{n.Name}, NameOk(n.Name)
	}
	if isAhead(n.Kind) {
		of, ok := parts.pop()
		return aheadPart{n.Kind, of}, ok
	}
	if isPair(n.Kind) {
		right, _ := parts.pop()
		left, ok := parts.pop()
		return pairPart{n.Kind, left, right}, ok
	}
	return nil, false
}

// readSum reads all of a text as nodes. It does not ask whether they can be written, as writing asks this one.
func readSum(s string) ([]Node, bool) {
	if len(s) > ExprMax {
		return nil, false
	}
	r := reader{rest: s}
	p, ok := r.climb(tightOr)
	if !ok || r.rest != "" {
		return nil, false
	}
	list := p.nodes(nil)
	if len(list) > NodeMax {
		return nil, false
	}
	return list, true
}

// reader is what is left of a text, and how many parentheses are open there.
type reader struct {
	rest string
	open int
}

// climb reads a part whose signs bind as tightly as least, or more tightly. What follows a sign must bind more tightly than it, so that signs that bind alike go from the left.
func (r *reader) climb(least int) (part, bool) {
	left, ok := r.ahead()
	if !ok {
		return nil, false
	}
	for {
		kind, found := r.nextPair()
		if !found || signs[kind].tight < least {
			return left, true
		}
		r.skip(len(signs[kind].text))
		right, ok := r.climb(signs[kind].tight + 1)
		if !ok {
			return nil, false
		}
		left = pairPart{kind, left, right}
	}
}

// nextPair only looks: whether a sign is taken hangs on how tightly it binds.
func (r *reader) nextPair() (int, bool) {
	r.skipBlanks()
	for kind := NodeMul; kind <= NodeOr; kind++ {
		if strings.HasPrefix(r.rest, signs[kind].text) {
			return kind, true
		}
	}
	return 0, false
}

func (r *reader) ahead() (part, bool) {
	r.skipBlanks()
	for kind := NodeNeg; kind <= NodeNot; kind++ {
		if strings.HasPrefix(r.rest, signs[kind].text) {
			r.skip(len(signs[kind].text))
			of, ok := r.ahead()
			return aheadPart{kind, of}, ok
		}
	}
	return r.single()
}

func (r *reader) single() (part, bool) {
	if r.rest == "" {
		return nil, false
	}
	if r.rest[0] == '(' {
		return r.within()
	}
	if isFigure(r.rest[0]) {
		return r.number()
	}
	name := r.run(isNameByte)
	return namePart{name}, NameOk(name)
}

func (r *reader) within() (part, bool) {
	if r.open == DeepMax {
		return nil, false
	}
	r.open++
	r.skip(len("("))
	p, ok := r.climb(tightOr)
	if !ok || !strings.HasPrefix(r.rest, ")") {
		return nil, false
	}
	r.skip(len(")"))
	r.open--
	return p, true
}

func (r *reader) number() (part, bool) {
	figures := r.run(isFigure)
	if len(figures) > figuresMax || len(figures) > 1 && figures[0] == '0' {
		return nil, false
	}
	num, err := strconv.Atoi(figures)
	return numPart{num}, err == nil
}

// run reads bytes of one sort, as many as there are.
func (r *reader) run(fits func(byte) bool) string {
	size := 0
	for size < len(r.rest) && fits(r.rest[size]) {
		size++
	}
	word := r.rest[:size]
	r.skip(size)
	return word
}

func (r *reader) skip(size int) {
	r.rest = r.rest[size:]
}

func (r *reader) skipBlanks() {
	r.rest = strings.TrimLeft(r.rest, " ")
}
