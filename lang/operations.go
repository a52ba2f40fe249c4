package lang

import (
	"slices"

	"vernier/api"
)

// Ways in which operations are written. What has its own way each time is written
// in noWay.
const (
	noWay   = iota
	between // a sign between two operands
	asCall  // a word, with the operands in parentheses
)

// operation is a kind of nodes: the way in which it is written, the sign or the
// word, and how many operands are nodes.
type operation struct {
	way   int
	text  string
	nodes int
}

var operations = [...]operation{
	api.OpInput: {},
	api.OpState: {},
	api.OpConst: {},
	api.OpNeg:   {noWay, "-", 1},
	api.OpAbs:   {asCall, "abs", 1},
	api.OpSqrt:  {asCall, "sqrt", 1},
	api.OpCast:  {noWay, "", 1},
	api.OpAdd:   {between, "+", 2},
	api.OpSub:   {between, "-", 2},
	api.OpMul:   {between, "*", 2},
	api.OpDiv:   {between, "/", 2},
	api.OpMin:   {asCall, "min", 2},
	api.OpMax:   {asCall, "max", 2},
	api.OpFma:   {asCall, "fma", 3},
	api.OpSel:   {noWay, "if", 4},
}

// calls returns the operation that is called by a word, or 0.
func calls(word string) int {
	for op, o := range operations {
		if o.way == asCall && o.text == word {
			return op
		}
	}
	return 0
}

func isOperation(op int) bool { return op >= api.OpInput && op <= api.OpSel }

// Kids returns the operands of a node.
func Kids(n api.Node) []int {
	if !isOperation(n.Op) {
		return nil
	}
	fields := [...]int{n.A, n.B, n.C, n.D}
	return slices.Clone(fields[:operations[n.Op].nodes])
}

// withKids returns the node with these operands.
func withKids(n api.Node, kids []int) api.Node {
	fields := [...]*int{&n.A, &n.B, &n.C, &n.D}
	for i, k := range kids {
		*fields[i] = k
	}
	return n
}

// moved returns the node with the numbers that stand for those of its operands.
func moved(n api.Node, numbers []int) api.Node {
	kids := Kids(n)
	for i, k := range kids {
		kids[i] = numbers[k]
	}
	return withKids(n, kids)
}

// Sections of programs.
const (
	inHead = iota
	inBody
	inRest
)

// section returns the section of a node that is there.
func section(p api.Prog, node int) int {
	switch {
	case node < p.Head:
		return inHead
	case node < p.Tail:
		return inBody
	}
	return inRest
}

// sees reports whether a node sees what has another number, if anything has.
func sees(p api.Prog, node, other int) bool {
	return 0 <= other && other < node && (other < p.Head || section(p, other) == section(p, node))
}
