package rewrite_test

import (
	"maps"
	"math/big"
	"strings"
	"testing"
	"unicode"

	"vernier/api"
	"vernier/bounds"
	"vernier/lang"
	"vernier/ranges"
	"vernier/rewrite"
)

// The second making reads the chapter's table, and goes through programs as trees.

// chapterTable has the rules as the chapter writes them, but the last one.
const chapterTable = `
a + b | b + a
a b | b a
(a + b) + c | a + (b + c)
a + (b + c) | (a + b) + c
(a b) c | a (b c)
a (b c) | (a b) c
a (b + c) | a b + a c
a b + a c | a (b + c)
a (b - c) | a b - a c
a b - a c | a (b - c)
a - b | a + (- b)
a + (- b) | a - b
- (- a) | a
(- a) b | - (a b)
a + a | 2 a
a a - b b | (a - b) (a + b)
a - a | 0
(a + b) - a | b
(a - b) - c | a - (b + c)
a + 0 | a
a 1 | a
a b + c | fma(a, b, c)
fma(a, b, c) | a b + c
(a + b) / c | a / c + b / c
a / c + b / c | (a + b) / c
(a / b) c | (a c) / b
(a / b) / c | a / (b c)
sqrt(a) sqrt(a) | a
sqrt(a a) | abs(a)
sqrt(a) sqrt(b) | sqrt(a b)
sqrt(a) - sqrt(b) | (a - b) / (sqrt(a) + sqrt(b))
abs(a) | a
min(a, b) | a
min(a, b) | b
max(a, b) | a
max(a, b) | b
if a <= b then c else d | c
if a <= b then c else d | d
cast(a) | a`

// tree is an expression of the table: a letter, a number, or an operation.
type tree struct {
	letter, number string
	op             int
	kids           []*tree
}

// readChapter returns the patterns and the results of the table.
func readChapter() (patterns, results []*tree) {
	for line := range strings.SplitSeq(strings.TrimSpace(chapterTable), "\n") {
		pattern, result, _ := strings.Cut(line, "|")
		patterns = append(patterns, readTree(pattern))
		results = append(results, readTree(result))
	}
	return patterns, results
}

func readTree(text string) *tree {
	for _, sign := range []string{"(", ")", ",", "+", "-", "/", "<="} {
		text = strings.ReplaceAll(text, sign, " "+sign+" ")
	}
	r := &treeReader{strings.Fields(text)}
	x := r.whole()
	if len(r.words) > 0 {
		panic("words are left: " + text)
	}
	return x
}

type treeReader struct{ words []string }

func (r *treeReader) next() string {
	if len(r.words) == 0 {
		return ""
	}
	return r.words[0]
}

func (r *treeReader) take(word string) bool {
	if r.next() != word {
		return false
	}
	r.words = r.words[1:]
	return true
}

func (r *treeReader) need(word string) {
	if !r.take(word) {
		panic("no " + word + " but " + r.next())
	}
}

func (r *treeReader) whole() *tree {
	if !r.take("if") {
		return r.sum()
	}
	a := r.sum()
	r.need("<=")
	b := r.sum()
	r.need("then")
	c := r.sum()
	r.need("else")
	return &tree{op: api.OpSel, kids: []*tree{a, b, c, r.sum()}}
}

func (r *treeReader) sum() *tree {
	x := r.product()
	for {
		switch {
		case r.take("+"):
			x = &tree{op: api.OpAdd, kids: []*tree{x, r.product()}}
		case r.take("-"):
			x = &tree{op: api.OpSub, kids: []*tree{x, r.product()}}
		default:
			return x
		}
	}
}

func (r *treeReader) product() *tree {
	x := r.factor()
	for {
		first := []rune(r.next() + " ")[0]
		switch {
		case r.take("/"):
			x = &tree{op: api.OpDiv, kids: []*tree{x, r.factor()}}
		case r.next() == "(" || unicode.IsDigit(first) || unicode.IsLetter(first) && r.next() != "then" && r.next() != "else":
			x = &tree{op: api.OpMul, kids: []*tree{x, r.factor()}}
		default:
			return x
		}
	}
}

func (r *treeReader) factor() *tree {
	word := r.next()
	r.words = r.words[1:]
	calls := map[string]int{"sqrt": api.OpSqrt, "abs": api.OpAbs, "min": api.OpMin, "max": api.OpMax, "fma": api.OpFma, "cast": api.OpCast}
	switch {
	case word == "-":
		return &tree{op: api.OpNeg, kids: []*tree{r.factor()}}
	case word == "(":
		x := r.sum()
		r.need(")")
		return x
	case calls[word] != 0:
		x := &tree{op: calls[word]}
		r.need("(")
		for x.kids = append(x.kids, r.sum()); r.take(","); {
			x.kids = append(x.kids, r.sum())
		}
		r.need(")")
		return x
	case unicode.IsDigit(rune(word[0])):
		return &tree{number: word}
	}
	return &tree{letter: word}
}

// operandsModel returns the operands of a node.
func operandsModel(n api.Node) []int {
	switch n.Op {
	case api.OpNeg, api.OpAbs, api.OpSqrt, api.OpCast:
		return []int{n.A}
	case api.OpAdd, api.OpSub, api.OpMul, api.OpDiv, api.OpMin, api.OpMax:
		return []int{n.A, n.B}
	case api.OpFma:
		return []int{n.A, n.B, n.C}
	case api.OpSel:
		return []int{n.A, n.B, n.C, n.D}
	}
	return nil
}

// matches returns the letters of a pattern at a node, or nil.
func (x *tree) matches(p api.Prog, node int, letters map[string]int) map[string]int {
	n := p.Nodes[node]
	out := maps.Clone(letters)
	switch {
	case x.letter != "":
		if at, is := letters[x.letter]; is && at != node {
			return nil
		}
		out[x.letter] = node
		return out
	case x.number != "":
		if n.Op != api.OpConst || string(n.Value) != x.number {
			return nil
		}
		return out
	case n.Op != x.op:
		return nil
	}
	for i, k := range operandsModel(n) {
		if out = x.kids[i].matches(p, k, out); out == nil {
			return nil
		}
	}
	return out
}

// build appends the nodes of a result, and returns the number of the last one.
func (x *tree) build(nodes *[]api.Node, letters map[string]int, format int) int {
	n := api.Node{Op: x.op, Format: format}
	switch {
	case x.letter != "":
		return letters[x.letter]
	case x.number != "":
		n.Op, n.Value = api.OpConst, api.Rat(x.number)
	}
	for i, kid := range x.kids {
		*[...]*int{&n.A, &n.B, &n.C, &n.D}[i] = kid.build(nodes, letters, format)
	}
	*nodes = append(*nodes, n)
	return len(*nodes) - 1
}

// rewriter is the second making.
type rewriter struct{ patterns, results []*tree }

func newRewriter() *rewriter {
	patterns, results := readChapter()
	return &rewriter{patterns, results}
}

// apply is Apply of a canonical form without states.
func (r *rewriter) apply(p api.Prog, rule, node int) (api.Prog, api.Errno) {
	if rule < 1 || rule > 40 || node < 0 || node >= len(p.Nodes) {
		return api.Prog{}, api.ErrRange
	}
	n := p.Nodes[node]
	result, letters := &tree{}, map[string]int{}
	if rule == 40 {
		value, e := foldModel(p, n)
		if e != api.OK {
			return api.Prog{}, e
		}
		result.number = string(value)
	} else {
		result, letters = r.results[rule-1], r.patterns[rule-1].matches(p, node, letters)
		switch {
		case letters == nil:
			return api.Prog{}, rewrite.ErrMatch
		case !conditionModel(p, rule, n, letters):
			return api.Prog{}, rewrite.ErrSide
		}
	}
	q, _, e := lang.Canon(replacedModel(p, node, result, letters))
	return q, e
}

// replacedModel makes all nodes again: those before the node, the result, those behind it.
func replacedModel(p api.Prog, node int, result *tree, letters map[string]int) api.Prog {
	q := p
	q.Nodes = append([]api.Node(nil), p.Nodes[:node]...)
	format := p.Nodes[node].Format
	stands := result.build(&q.Nodes, letters, format)
	if q.Nodes[stands].Format != format {
		q.Nodes = append(q.Nodes, api.Node{Op: api.OpCast, A: stands, Format: format})
		stands = len(q.Nodes) - 1
	}
	numbers := map[int]int{node: stands}
	for i := range node {
		numbers[i] = i
	}
	for i, n := range p.Nodes {
		if i <= node {
			continue
		}
		for j, k := range operandsModel(n) {
			*[...]*int{&n.A, &n.B, &n.C, &n.D}[j] = numbers[k]
		}
		numbers[i] = len(q.Nodes)
		q.Nodes = append(q.Nodes, n)
	}
	q.Head, q.Tail, q.Result = len(q.Nodes), len(q.Nodes), numbers[p.Result]
	return q
}

// conditionModel reports whether the side condition of a rule holds.
func conditionModel(p api.Prog, rule int, n api.Node, letters map[string]int) bool {
	box := []api.Span{}
	for _, in := range p.Inputs {
		box = append(box, api.Span{Lo: in.Lo, Hi: in.Hi})
	}
	// end returns an end of a range, or nil.
	end := func(node int, lower bool) *big.Rat {
		x, e := ranges.Best(p, box, node)
		switch {
		case e != api.OK:
			return nil
		case lower:
			return toRat(x.Lo().Text())
		}
		return toRat(x.Hi().Text())
	}
	lo := func(letter string) *big.Rat { return end(letters[letter], true) }
	hi := func(letter string) *big.Rat { return end(letters[letter], false) }
	atMost := func(x, y *big.Rat) bool { return x != nil && y != nil && x.Cmp(y) <= 0 }
	switch rewrite.Name(rule) {
	case "conjugate":
		x, y := end(n.A, true), end(n.B, true)
		return x != nil && y != nil && new(big.Rat).Add(x, y).Sign() > 0
	case "abs-same":
		return lo("a") != nil && lo("a").Sign() >= 0
	case "min-left", "max-right", "sel-then":
		return atMost(hi("a"), lo("b"))
	case "min-right", "max-left":
		return atMost(hi("b"), lo("a"))
	case "sel-else":
		return lo("a") != nil && hi("b") != nil && lo("a").Cmp(hi("b")) > 0
	}
	return true
}

// foldModel returns the value of a node whose operands are constants, or why there is none.
func foldModel(p api.Prog, n api.Node) (api.Rat, api.Errno) {
	var in []*big.Rat
	for _, k := range operandsModel(n) {
		if p.Nodes[k].Op != api.OpConst {
			return "", rewrite.ErrMatch
		}
		in = append(in, toRat(p.Nodes[k].Value))
	}
	if len(in) == 0 {
		return "", rewrite.ErrMatch
	}
	x := valueModel(n.Op, in)
	if x == nil {
		return "", rewrite.ErrSide
	}
	top := strings.TrimPrefix(x.Num().String(), "-")
	if max(len(top), len(x.Denom().String())) > api.MaxDigits {
		return "", rewrite.ErrSide
	}
	return toText(x), api.OK
}

// valueModel returns the value of an operation, or nil.
func valueModel(op int, in []*big.Rat) *big.Rat {
	x := new(big.Rat)
	switch op {
	case api.OpNeg:
		return x.Neg(in[0])
	case api.OpAbs:
		return x.Abs(in[0])
	case api.OpSqrt:
		return rootModel(in[0])
	case api.OpCast:
		return in[0]
	case api.OpAdd:
		return x.Add(in[0], in[1])
	case api.OpSub:
		return x.Sub(in[0], in[1])
	case api.OpMul:
		return x.Mul(in[0], in[1])
	case api.OpFma:
		return x.Add(x.Mul(in[0], in[1]), in[2])
	}
	less := in[0].Cmp(in[1]) <= 0
	switch {
	case op == api.OpDiv && in[1].Sign() == 0:
		return nil
	case op == api.OpDiv:
		return x.Quo(in[0], in[1])
	case op == api.OpSel:
		in = in[2:]
	case op == api.OpMax:
		less = !less
	}
	if less {
		return in[0]
	}
	return in[1]
}

func rootModel(x *big.Rat) *big.Rat {
	if x.Sign() < 0 {
		return nil
	}
	root := new(big.Rat).SetFrac(new(big.Int).Sqrt(x.Num()), new(big.Int).Sqrt(x.Denom()))
	if new(big.Rat).Mul(root, root).Cmp(x) != 0 {
		return nil
	}
	return root
}

// steps is Steps.
func (r *rewriter) steps(p api.Prog) []api.RwStep {
	var out []api.RwStep
	for node := range p.Nodes {
		for rule := 1; rule <= 40; rule++ {
			if _, e := r.apply(p, rule, node); e == api.OK {
				out = append(out, api.RwStep{Rule: rule, Node: node})
			}
		}
	}
	return out
}

// reach is Reach, with the steps to each program.
func (r *rewriter) reach(p api.Prog, rounds, most int) (programs []api.Prog, paths [][]api.RwStep) {
	programs, paths = []api.Prog{p}, [][]api.RwStep{nil}
	added := []int{0}
	for range rounds {
		var next []int
		for _, from := range added {
			for _, s := range r.steps(programs[from]) {
				if len(programs) == most {
					return programs, paths
				}
				q, _ := r.apply(programs[from], s.Rule, s.Node)
				if indexModel(programs, q) >= 0 {
					continue
				}
				next = append(next, len(programs))
				programs = append(programs, q)
				paths = append(paths, append(append([]api.RwStep(nil), paths[from]...), s))
			}
		}
		added = next
	}
	return programs, paths
}

func indexModel(programs []api.Prog, q api.Prog) int {
	for i, p := range programs {
		if dump(p.Nodes, p.Result) == dump(q.Nodes, q.Result) {
			return i
		}
	}
	return -1
}

// bestModel returns which of some programs has the least error, and this, or an error.
func bestModel(t testing.TB, programs []api.Prog, plan api.BdPlan) (best int, bound api.Rat, e api.Errno) {
	t.Helper()
	best = -1
	for i, p := range programs {
		x, fault := bounds.Error(p, plan)
		if i == 0 {
			e = fault
		}
		if fault == api.OK && (best < 0 || toRat(x.Text()).Cmp(toRat(bound)) < 0) {
			best, bound = i, x.Text()
		}
	}
	if best >= 0 {
		return best, bound, api.OK
	}
	return -1, "", e
}
