package bounds_test

import (
	"math"
	"math/big"
	"math/rand"
	"slices"
	"testing"

	"vernier/api"
	"vernier/bounds"
	"vernier/lang"
	"vernier/proofs"
)

var (
	odds     = []int{0, 1, 2, 3, 4, 5, 7, 64, -1, math.MinInt, math.MaxInt}
	oddTexts = []api.Rat{"0", "1", "-1/2", "1/3", "2/4", "x", "\xff", "1/0", "-0", "", "70000"}
)

// odd makes values of which few are valid.
type odd struct{ *rand.Rand }

func (o odd) int() int { return odds[o.Intn(len(odds))] }

func (o odd) text() api.Rat { return oddTexts[o.Intn(len(oddTexts))] }

// program spoils a program.
func (o odd) program(p api.Prog) api.Prog {
	for range max(0, o.Intn(5)-2) {
		switch o.Intn(8) {
		case 0:
			p.Formats = append(p.Formats, api.Format{E: o.int(), P: o.int()})
		case 1:
			p.Mode = o.int()
		case 2:
			p.Inputs = append(p.Inputs, api.Input{Format: o.int(), Lo: o.text(), Hi: o.text()})
		case 3:
			p.Nodes = append(p.Nodes, api.Node{Op: o.int(), A: o.int(), B: o.int(), C: o.int(), D: o.int(), Format: o.int(), Value: o.text()})
		case 4:
			n := &p.Nodes[o.Intn(len(p.Nodes))]
			*[]*int{&n.Op, &n.A, &n.B, &n.C, &n.D, &n.Format}[o.Intn(6)] = o.int()
		case 5:
			p.Head = o.int()
		case 6:
			p.States = append(p.States, api.State{Init: o.int(), Next: o.int()})
		case 7:
			p.Result = o.int()
		}
	}
	return p
}

// box spoils a box.
func (o odd) box(box []api.Span) []api.Span {
	for range o.Intn(2) {
		switch {
		case o.Intn(3) == 0 || len(box) == 0:
			box = append(box, api.Span{Lo: o.text(), Hi: o.text()})
		case o.Intn(2) == 0:
			box = box[1:]
		default:
			box[o.Intn(len(box))].Hi = o.text()
		}
	}
	return box
}

// plan spoils a plan.
func (o odd) plan(plan api.BdPlan) api.BdPlan {
	if o.Intn(6) == 0 {
		*[]*int{&plan.Bits, &plan.Splits, &plan.Widen}[o.Intn(3)] = o.int()
	}
	return plan
}

// leaf spoils a leaf.
func (o odd) leaf(l api.PfItem) api.PfItem {
	l = randomClaims(o.Rand, l)
	for range max(0, o.Intn(6)-3) {
		switch o.Intn(5) {
		case 0:
			l.Claims = append(l.Claims, api.PfClaim{})
		case 1:
			l.States = append(l.States, api.PfClaim{})
		case 2:
			l.Kind, l.Input, l.At = o.int(), o.int(), o.text()
		case 3:
			if len(l.Claims) > 0 {
				l.Claims[o.Intn(len(l.Claims))] = api.PfClaim{Rule: o.int(), Lo: o.text(), Hi: o.text(), Err: o.text(), Low: make([]api.PfSquare, o.Intn(30))}
			}
		case 4:
			l.Claims = nil
		}
	}
	return l
}

// terms makes any terms.
func (o odd) terms() []api.PfTerm {
	var out []api.PfTerm
	for range o.Intn(4) {
		x := api.PfTerm{Coef: o.text()}
		for range 1 + o.Intn(2) {
			x.Pows = append(x.Pows, o.Intn(5))
		}
		if o.Intn(5) == 0 {
			x.Pows = append(x.Pows, o.int())
		}
		out = append(out, x)
	}
	return out
}

// TestP8_12_AnyArguments: arguments of all kinds come to an end, and are as they were; with an
// error the other results are zero.
func TestP8_12_AnyArguments(t *testing.T) {
	random := rand.New(rand.NewSource(812))
	o := odd{random}
	good, bad := 0, 0
	for range 1500 {
		p, plan := randomProgram(t, random), randomPlan(random)
		plan.Splits = min(plan.Splits, 2)
		q, _ := bounds.Derive(p, plan)
		l, _ := bounds.Leaf(p, boxOf(p), plan)
		l, plan = o.leaf(l), o.plan(plan)
		if random.Intn(4) == 0 {
			q.Items = append(q.Items, l)
		}
		box, f := o.box(randomBox(random, p)), o.terms()
		p = o.program(p)
		before := dump(p, q, l, plan, box, f)
		callAll(t, o, p, q, l, plan, box, f, &good, &bad)
		if dump(p, q, l, plan, box, f) != before {
			t.Fatalf("arguments have become others: %s", before)
		}
		if t.Failed() {
			t.Fatal(before)
		}
	}
	if good < 2000 || bad < 2000 {
		t.Errorf("%d calls without an error, %d with one", good, bad)
	}
}

// callAll calls all functions, and looks at what they return with an error.
func callAll(t *testing.T, o odd, p api.Prog, q api.Proof, l api.PfItem, plan api.BdPlan, box []api.Span, f []api.PfTerm, good, bad *int) {
	t.Helper()
	_, _, invalid := lang.Check(p)
	noPlan := bounds.Check(plan)
	count := func(name string, e api.Errno, zero bool) {
		t.Helper()
		switch want := max(noPlan, 0); {
		case name == "Certificate":
		case want != api.OK && e != want:
			t.Errorf("%s: error %d, want that of the plan, %d", name, e, want)
		case want == api.OK && invalid != api.OK && e != invalid:
			t.Errorf("%s: error %d, want that of the program, %d", name, e, invalid)
		}
		if e == api.OK {
			*good++
			return
		}
		*bad++
		if !zero {
			t.Errorf("%s: results with the error %d", name, e)
		}
	}
	node := o.Intn(len(p.Nodes))
	if o.Intn(6) == 0 {
		node = o.int()
	}
	c, e := bounds.Claim(p, box, l, node, plan)
	count("Claim", e, dump(c) == dump(api.PfClaim{}))
	item, e := bounds.Leaf(p, box, plan)
	count("Leaf", e, dump(item) == dump(api.PfItem{}))
	states, e := bounds.States(p, box, plan)
	count("States", e, len(states) == 0)
	lo, hi, low, high, e := bounds.Certificate(f, box)
	count("Certificate", e, lo.Sign() == 0 && hi.Sign() == 0 && len(low)+len(high) == 0)
	r, e := bounds.Derive(p, plan)
	count("Derive", e, proofs.Same(r, api.Proof{}))
	err, e := bounds.Error(p, plan)
	count("Error", e, err.Sign() == 0)
	r, e = bounds.Prune(p, q, plan)
	count("Prune", e, proofs.Same(r, api.Proof{}))
}

// scrub clears all memory that items have.
func scrub(l []api.PfItem) {
	for _, item := range l {
		for _, list := range [][]api.PfClaim{item.Claims, item.States} {
			for _, c := range list {
				scrubSquares(c.Low)
				scrubSquares(c.High)
			}
			clear(list[:cap(list)])
		}
	}
	clear(l[:cap(l)])
}

func scrubSquares(l []api.PfSquare) {
	for _, s := range l {
		for _, x := range s.Poly {
			clear(x.Pows[:cap(x.Pows)])
		}
		clear(s.Poly[:cap(s.Poly)])
	}
	clear(l[:cap(l)])
}

// TestR4_Memory: results share no memory with arguments or with one another.
func TestR4_Memory(t *testing.T) {
	p := program(t, "format h 5 11; input x : h from 1 to 2; state s : h = x * x - x; state u : h = x * x - x; loop; next s = (x * x - x) / 2; next u = s / 2; end; let r : h = (x * x - x) + s + u; result r")
	plan := api.BdPlan{Bits: 30, Splits: 3, Widen: 9, Squares: true}
	q, e := bounds.Derive(p, plan)
	if e != api.OK || len(q.Items) != 7 {
		t.Fatalf("Derive: %d items, error %d", len(q.Items), e)
	}
	whole := dump(q)
	pruned, e := bounds.Prune(p, q, api.BdPlan{Bits: 8, Widen: 9})
	if e != api.OK || len(pruned.Items) != 7 {
		t.Fatalf("Prune: %d items, error %d", len(pruned.Items), e)
	}
	for i := range pruned.Items {
		rest := dump(pruned.Items[i+1:])
		scrub(pruned.Items[i : i+1 : i+1])
		if dump(pruned.Items[i+1:]) != rest {
			t.Errorf("the item %d shares memory with others", i)
		}
	}
	if dump(q) != whole {
		t.Error("Prune shares memory with its argument")
	}
	l := q.Items[len(q.Items)-1]
	again, _ := bounds.Leaf(p, boxOf(p), plan)
	before := dump(again)
	for i := range l.Claims {
		rest := dump(l.Claims[i+1:], l.States)
		scrubSquares(l.Claims[i].Low)
		between := dump(l.Claims[i].High)
		if i == 0 && between != dump(l.Claims[i].High) {
			t.Error("both lists of squares share memory")
		}
		scrubSquares(l.Claims[i].High)
		if dump(l.Claims[i+1:], l.States) != rest {
			t.Errorf("the claim %d shares memory with others", i)
		}
	}
	scrub(q.Items)
	if dump(again) != before {
		t.Error("two results share memory")
	}
	f := terms("-1 1; 1 2")
	_, _, low, high, _ := bounds.Certificate(f, spans("1 2"))
	left := dump(high, f)
	scrubSquares(low)
	if dump(high, f) != left {
		t.Error("the squares of low share memory with those of high")
	}
	for i := range high {
		rest := dump(high[i+1:])
		scrubSquares(high[i : i+1 : i+1])
		if dump(high[i+1:]) != rest {
			t.Error("squares share memory")
		}
	}
}

// TestR3_Empty: empty lists are no lists.
func TestR3_Empty(t *testing.T) {
	p := program(t, "format s 8 24; let a : s = 5; result a")
	q := p
	q.Inputs, q.States = []api.Input{}, []api.State{}
	plan := api.BdPlan{Bits: 30, Splits: 2, Mean: true, Squares: true}
	for _, x := range []api.Prog{p, q} {
		for _, box := range [][]api.Span{nil, {}} {
			expectLeaf(t, "Leaf", "step 5 5 0 | ", api.OK)(bounds.Leaf(x, box, plan))
			expectStates(t, "States", "", api.OK)(bounds.States(x, box, plan))
			for _, states := range [][]api.PfClaim{nil, {}} {
				l := leaf("-", "")
				l.States = states
				expectClaim(t, "Claim", "step 5 5 0", api.OK)(bounds.Claim(x, box, l, 0, plan))
			}
			expectCertificate(t, "Certificate", "", api.ErrRange)(bounds.Certificate(nil, box))
			expectCertificate(t, "Certificate", "", api.ErrRange)(bounds.Certificate([]api.PfTerm{}, box))
		}
		proof, e := bounds.Derive(x, plan)
		expectProof(t, "Derive", x, "5 5 0", "step 5 5 0", api.OK)(proof, e)
		proof.Items[0].States = []api.PfClaim{}
		proof.Items[0].Claims[0].Low, proof.Items[0].Claims[0].High = []api.PfSquare{}, []api.PfSquare{}
		expectProof(t, "Prune", x, "5 5 0", "step 5 5 0", api.OK)(bounds.Prune(x, proof, plan))
	}
}

// longNumber returns a number with as many digits as there may be.
func longNumber(random *rand.Rand) *big.Rat {
	row := func() *big.Int {
		text := "1"
		for range api.MaxDigits - 1 {
			text += string(rune('0' + random.Intn(10)))
		}
		x, _ := new(big.Int).SetString(text, 10)
		return x
	}
	return new(big.Rat).SetFrac(row(), row())
}

// TestP1_LongNumbers: boxes, claims and terms with as many digits as they may have come to an
// end.
func TestP1_LongNumbers(t *testing.T) {
	random := rand.New(rand.NewSource(1))
	p := program(t, "format d 11 53; input x : d from 1 to 2; input y : d from 1 to 2; let a : d = fma(x, y, x); let b : d = a / x; let c : d = x * x - x; let r : d = sqrt(b) + c; result r")
	long := func() api.Span {
		x, y := longNumber(random), longNumber(random)
		return api.Span{Lo: toText(least(x, y)), Hi: toText(greatest(x, y))}
	}
	box := []api.Span{long(), long()}
	var l api.PfItem
	for range p.Nodes {
		s := long()
		l.Claims = append(l.Claims, api.PfClaim{Lo: s.Lo, Hi: s.Hi, Err: api.Rat("1/" + digits(api.MaxDigits))})
	}
	for _, plan := range []api.BdPlan{{Bits: 8, Squares: true}, {Bits: 400, Mean: true, Squares: true}} {
		want, _, _, wantE := leafModel(p, box, plan)
		got, e := bounds.Leaf(p, box, plan)
		expectSame(t, "Leaf", got, e, want, wantE)
		for i := range p.Nodes {
			m := newModel(p, box, plan)
			m.item = l
			m.item.Claims = slices.Clone(l.Claims)
			want, wantE := m.best(i)
			got, e := bounds.Claim(p, box, l, i, plan)
			expectSame(t, "Claim", got, e, want, wantE)
		}
	}
	var f []api.PfTerm
	for n := range 17 {
		f = append(f, api.PfTerm{Coef: toText(longNumber(random)), Pows: []int{0, n}})
	}
	expectCertificate(t, "long numbers", "", api.ErrLong)(bounds.Certificate(f, box))
}
