package run

import (
	"vernier/api"
	"vernier/exact"
)

// realRun is the real run, and its arithmetic.
type realRun struct {
	list
	trace[realValue]
	at int // the node of the value of the run
}

// kinds has the kind of the node that is appended for an operation.
var kinds = [...]int{
	api.OpNeg:  api.RlNeg,
	api.OpAbs:  api.RlAbs,
	api.OpSqrt: api.RlRoot,
	api.OpAdd:  api.RlAdd,
	api.OpSub:  api.RlSub,
	api.OpMul:  api.RlMul,
	api.OpDiv:  api.RlQuo,
	api.OpMin:  api.RlMin,
	api.OpMax:  api.RlMax,
	api.OpFma:  api.RlAdd, // of the product
}

func (r *realRun) exactly(x exact.Num) realValue { return plainValue(x) }

func (r *realRun) atMost(a, b realValue) (is bool, stop int) {
	if a.plain != b.plain && (isHeavy(a) || isHeavy(b)) {
		return false, tooLarge
	}
	return r.cmp(a, b) <= 0, 0
}

// isHeavy reports whether a value is too long to be compared with a node.
func isHeavy(x realValue) bool { return x.plain && x.num.Digits() > api.MaxRnWeight }

func (r *realRun) apply(op, _ int, in []realValue) (realValue, int) {
	switch {
	case op <= api.OpConst || op == api.OpCast:
		return in[0], 0
	case op == api.OpSqrt && r.sign(in[0]) < 0:
		return realValue{}, api.RnRoot
	case op == api.OpDiv && r.sign(in[1]) == 0:
		return realValue{}, api.RnZero
	case arePlain(in):
		if x, is := computePlain(op, in); is {
			return limited(x)
		}
	}
	return r.appendOperation(op, in)
}

// computePlain returns the value of an operation without a fault for plain operands,
// if it is plain: so but for roots.
func computePlain(op int, in []realValue) (exact.Num, bool) {
	if op == api.OpSqrt {
		return in[0].num.Root()
	}
	nums := make([]exact.Num, len(in))
	for i, x := range in {
		nums[i] = x.num
	}
	x, _ := compute(op, nums)
	return x, true
}

// limited returns a plain value, if it is not too long.
func limited(x exact.Num) (realValue, int) {
	if x.Digits() > api.MaxDigits {
		return realValue{}, tooLarge
	}
	return plainValue(x), 0
}

// appendOperation appends the nodes of an operation whose value is not plain.
func (r *realRun) appendOperation(op int, in []realValue) (realValue, int) {
	operands := make([]int, len(in))
	for i, x := range in {
		operands[i] = r.nodeOf(x)
	}
	if op == api.OpFma {
		operands = []int{r.add(api.RlMul, operands[:2]...), operands[2]}
	}
	node := r.add(kinds[op], operands...)
	if r.isTooLarge() {
		return realValue{}, tooLarge
	}
	return realValue{node: node}, 0
}

// runReal does the real run.
func runReal(p api.Prog, in []api.Rat, steps int) (*realRun, api.Errno) {
	x, _, e := readPlan(p, in, steps)
	if e != api.OK {
		return nil, e
	}
	return x.runReal()
}

func (p *plan) runReal() (*realRun, api.Errno) {
	r := &realRun{list: list{spans: map[int]span{}}}
	r.trace = perform[realValue](p, r)
	if !r.fails() {
		r.at = r.nodeOf(r.result())
	}
	if r.fault.Kind == tooLarge || len(r.nodes) > api.MaxRnList {
		return nil, api.ErrLong
	}
	return r, api.OK
}
