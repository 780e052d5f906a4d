package impl

import (
	"math"
	"slices"
)

// SlotMax is how many values a block has at most.
const SlotMax = 16

// Op is an op for a stack: its kind is that of a node, its number a number, or the place of a value.
type Op struct {
	Kind int
	Num  int
}

// CodeOf is the code of a sum.
func CodeOf(list []Node, names []string) ([]Op, bool) {
	if _, ok := sumOf(list); !ok || len(names) > SlotMax {
		return nil, false
	}
	var code stack[Op]
	for _, n := range list {
		op := Op{Kind: n.Kind, Num: n.Num}
		if n.Kind == NodeName {
			op.Num = slices.Index(names, n.Name)
			if op.Num < 0 {
				return nil, false
			}
		}
		putFolded(&code, op)
	}
	return code.list, true
}

// CodeDeep is how many numbers stand at most while code runs.
func CodeDeep(code []Op, slots int) int {
	if slots < 0 || slots > SlotMax || len(code) > NodeMax {
		return -1
	}
	stand, most := 0, 0
	for _, op := range code {
		takes, ok := opTakes(op, slots)
		if !ok || stand < takes {
			return -1
		}
		stand += 1 - takes
		most = max(most, stand)
	}
	if stand != 1 {
		return -1
	}
	return most
}

// CodeRun is what code comes to.
func CodeRun(code []Op, vals []int) int {
	if CodeDeep(code, len(vals)) < 0 {
		return 0
	}
	funcs := opFuncs()
	var nums stack[int32]
	for _, op := range code {
		funcs[op.Kind](&nums, op, vals)
	}
	num, _ := nums.pop()
	return int(num)
}

// opTakes is how many numbers an op takes from the stack, if it is one; each puts one there.
func opTakes(op Op, slots int) (int, bool) {
	if op.Kind == NodeNum {
		return 0, is32(op.Num)
	}
	if op.Kind == NodeName {
		return 0, 0 <= op.Num && op.Num < slots
	}
	if isAhead(op.Kind) {
		return 1, op.Num == 0
	}
	return 2, isPair(op.Kind) && op.Num == 0
}

// is32 says whether a number is one of 32 bits.
func is32(num int) bool {
	return math.MinInt32 <= num && num <= math.MaxInt32
}

// opFunc does an op to the numbers that stand.
type opFunc func(nums *stack[int32], op Op, vals []int)

func opFuncs() [NodeOr + 1]opFunc {
	return [NodeOr + 1]opFunc{
		NodeNum:  runNum,
		NodeName: runName,
		NodeNeg:  runAhead,
		NodeNot:  runAhead,
		NodeMul:  runPair,
		NodeDiv:  runPair,
		NodeRest: runPair,
		NodeAdd:  runPair,
		NodeSub:  runPair,
		NodeLess: runPair,
		NodeSame: runPair,
		NodeAnd:  runPair,
		NodeOr:   runPair,
	}
}

func runNum(nums *stack[int32], op Op, vals []int) {
	nums.push(int32(op.Num))
}

func runName(nums *stack[int32], op Op, vals []int) {
	nums.push(int32(vals[op.Num]))
}

func runAhead(nums *stack[int32], op Op, vals []int) {
	of, _ := nums.pop()
	nums.push(aheadValue(op.Kind, of))
}

func runPair(nums *stack[int32], op Op, vals []int) {
	right, _ := nums.pop()
	left, _ := nums.pop()
	nums.push(pairValue(op.Kind, left, right))
}

// putFolded puts an op behind code, or what it comes to, if that is known. The ops that a sign takes stand last, so it is enough to look at these: a part that ends with a number is that number.
func putFolded(code *stack[Op], op Op) {
	takes, _ := opTakes(op, SlotMax)
	first := len(code.list) - takes
	if takes == 0 || slices.ContainsFunc(code.list[first:], isNotNum) {
		code.push(op)
		return
	}
	num := CodeRun(slices.Concat(code.list[first:], []Op{op}), nil)
	code.list = code.list[:first]
	code.push(Op{Kind: NodeNum, Num: num})
}

func isNotNum(op Op) bool {
	return op.Kind != NodeNum
}
