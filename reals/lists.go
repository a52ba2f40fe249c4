package reals

import (
	"iter"

	"vernier/api"
	"vernier/exact"
)

// operandCounts has how many earlier nodes a node uses, for each kind.
var operandCounts = [...]int{
	api.RlNum: 0,
	api.RlNeg: 1, api.RlAbs: 1, api.RlRoot: 1,
	api.RlAdd: 2, api.RlSub: 2, api.RlMul: 2, api.RlQuo: 2, api.RlMin: 2, api.RlMax: 2,
}

// operands returns the numbers of the nodes that a node of a known kind uses.
func operands(x api.RlNode) []int {
	both := [...]int{x.A, x.B}
	return both[:operandCounts[x.Kind]]
}

// moved returns the node with other numbers for the nodes that it uses.
func moved(x api.RlNode, to func(int) int) api.RlNode {
	switch len(operands(x)) {
	case 2:
		x.A, x.B = to(x.A), to(x.B)
	case 1:
		x.A = to(x.A)
	}
	return x
}

// plainlyFilled reports whether the kind is known, and what it does not use is
// zero.
func plainlyFilled(x api.RlNode) bool {
	if x.Kind < api.RlNum || x.Kind > api.RlMax || x.Kind != api.RlNum && x.Val != "" {
		return false
	}
	used := operandCounts[x.Kind]
	return (used > 0 || x.A == 0) && (used > 1 || x.B == 0)
}

// readNode checks a node that has a number, and returns what RlNum stands for.
func readNode(x api.RlNode, at int) (exact.Num, api.Errno) {
	if !plainlyFilled(x) {
		return exact.Num{}, api.ErrArg
	}
	if x.Kind == api.RlNum {
		return exact.Parse(x.Val)
	}
	for _, k := range operands(x) {
		if k < 0 || k >= at {
			return exact.Num{}, api.ErrRange
		}
	}
	return exact.Num{}, api.OK
}

// readList checks a list, and returns the numbers of its nodes RlNum. With an
// error it returns the number of the node instead.
func readList(l []api.RlNode) (nums []exact.Num, at int, e api.Errno) {
	if len(l) > api.MaxRlNodes {
		return nil, 0, api.ErrLong
	}
	nums = make([]exact.Num, len(l))
	for j, x := range l {
		if nums[j], e = readNode(x, j); e != api.OK {
			return nil, j, e
		}
	}
	return nums, 0, api.OK
}

// needed yields the numbers of the nodes that the node i is made of, ascending.
func needed(l []api.RlNode, i int) iter.Seq[int] {
	return func(yield func(int) bool) {
		is := make([]bool, i+1)
		is[i] = true
		for j := i; j >= 0; j-- {
			if is[j] {
				for _, k := range operands(l[j]) {
					is[k] = true
				}
			}
		}
		for j := range is {
			if is[j] && !yield(j) {
				return
			}
		}
	}
}

// weigh returns the weight of a node, given the weights of earlier ones.
func weigh(x api.RlNode, num exact.Num, weights []int) int {
	if x.Kind == api.RlNum {
		return num.Digits()
	}
	sum := 0
	for _, k := range operands(x) {
		sum += weights[k]
	}
	return min(sum, api.MaxRlWeight+1)
}
