package proofs_test

import (
	"math"
	"math/big"
	"math/rand"
	"slices"
	"testing"

	"vernier/api"
	"vernier/exact"
	"vernier/lang"
	"vernier/proofs"
)

var (
	odds     = []int{0, 1, 2, 3, 4, 5, 7, 64, -1, math.MinInt, math.MaxInt}
	oddTexts = []api.Rat{"0", "1", "-1/2", "1/3", "2/4", "x", "\xff", "1/0", "-0", "", "70000"}
)

// odd makes values of which few are valid.
type odd struct{ *rand.Rand }

func (o odd) int() int { return odds[o.Intn(len(odds))] }

func (o odd) text() api.Rat { return oddTexts[o.Intn(len(oddTexts))] }

// program spoils a program.
func (o odd) program(p api.Prog) api.Prog {
	for range max(0, o.Intn(5)-2) {
		switch o.Intn(8) {
		case 0:
			p.Formats = append(p.Formats, api.Format{E: o.int(), P: o.int()})
		case 1:
			p.Mode = o.int()
		case 2:
			p.Inputs = append(p.Inputs, api.Input{Format: o.int(), Lo: o.text(), Hi: o.text()})
		case 3:
			p.Nodes = append(p.Nodes, api.Node{Op: o.int(), A: o.int(), B: o.int(), C: o.int(), D: o.int(), Format: o.int(), Value: o.text()})
		case 4:
			n := &p.Nodes[o.Intn(len(p.Nodes))]
			*[]*int{&n.Op, &n.A, &n.B, &n.C, &n.D, &n.Format}[o.Intn(6)] = o.int()
		case 5:
			p.Head = o.int()
		case 6:
			p.States = append(p.States, api.State{Init: o.int(), Next: o.int()})
		case 7:
			p.Result = o.int()
		}
	}
	return p
}

// box spoils a box.
func (o odd) box(box []api.Span) []api.Span {
	for range o.Intn(2) {
		switch {
		case o.Intn(3) == 0 || len(box) == 0:
			box = append(box, api.Span{Lo: o.text(), Hi: o.text()})
		case o.Intn(2) == 0:
			box = box[1:]
		default:
			box[o.Intn(len(box))].Hi = o.text()
		}
	}
	return box
}

// squares makes any squares.
func (o odd) squares() []api.PfSquare {
	var out []api.PfSquare
	for range max(0, o.Intn(6)-3) {
		s := api.PfSquare{Coef: o.text(), Input: o.Intn(4) - 1}
		for range o.Intn(3) {
			x := api.PfTerm{Coef: o.text()}
			for range o.Intn(4) {
				x.Pows = append(x.Pows, o.int())
			}
			s.Poly = append(s.Poly, x)
		}
		out = append(out, s)
	}
	return out
}

// proof spoils a proof.
func (o odd) proof(p api.Prog, q api.Proof) api.Proof {
	for range max(0, o.Intn(6)-2) {
		q = spoil(o.Rand, p, q)
		if len(q.Items) == 0 {
			continue
		}
		x := &q.Items[o.Intn(len(q.Items))]
		if len(x.Claims) > 0 && o.Intn(2) == 0 {
			x.Claims = slices.Clone(x.Claims)
			c := &x.Claims[o.Intn(len(x.Claims))]
			c.Low, c.High, c.Rule = o.squares(), o.squares(), o.int()
		}
		if o.Intn(4) == 0 {
			x.Input = o.int()
		}
	}
	return q
}

// TestP7_13_AnyArguments: arguments of all kinds come to an end, and are as they were; with an
// error the other results are zero.
func TestP7_13_AnyArguments(t *testing.T) {
	random := rand.New(rand.NewSource(713))
	o := odd{random}
	good, bad := 0, 0
	for range 4000 {
		p := randomProgram(t, random)
		q, _ := newProver(random, p).prove()
		q = o.proof(p, q)
		in := randomInputs(t, random, p)
		if len(in) > 0 && random.Intn(4) == 0 {
			in[random.Intn(len(in))] = o.text()
		}
		box := o.box(boxOf(p))
		p = o.program(p)
		squares := o.squares()
		var l api.PfItem
		if len(q.Items) > 0 {
			l = q.Items[random.Intn(len(q.Items))]
		}
		before := dump(p, q, in, box, squares, l)
		for range 3 {
			callAll(t, o, p, q, in, box, squares, l, &good, &bad)
		}
		if dump(p, q, in, box, squares, l) != before {
			t.Fatalf("arguments have become others: %s", before)
		}
		if t.Failed() {
			t.Fatal(before)
		}
	}
	if good < 5000 || bad < 5000 {
		t.Errorf("%d calls without an error, %d with one", good, bad)
	}
}

// callAll calls all functions, and looks at what they return with an error.
func callAll(t *testing.T, o odd, p api.Prog, q api.Proof, in []api.Rat, box []api.Span, squares []api.PfSquare, l api.PfItem, good, bad *int) {
	t.Helper()
	node := o.Intn(len(p.Nodes))
	if o.Intn(6) == 0 {
		node = o.int()
	}
	_, _, invalid := lang.Check(p)
	count := func(name string, e api.Errno, zero bool) {
		t.Helper()
		if e == api.OK {
			*good++
			return
		}
		*bad++
		if !zero {
			t.Errorf("%s: results with the error %d", name, e)
		}
	}
	// expectFirst expects the error of an invalid program from a function that has one.
	expectFirst := func(name string, e api.Errno) {
		t.Helper()
		if invalid != api.OK && e != invalid {
			t.Errorf("%s: error %d, want that of the program, %d", name, e, invalid)
		}
	}
	item, at, e := proofs.Check(p, q)
	expectFirst("Check", e)
	count("Check", e, true)
	if e == api.OK && (item != 0 || at != 0) || invalid != api.OK && (item != -1 || at != -1) {
		t.Errorf("Check: %d, %d, error %d", item, at, e)
	}
	lo, hi, err, e := proofs.Tight(p, box, l, node)
	expectFirst("Tight", e)
	count("Tight", e, lo.Sign() == 0 && hi.Sign() == 0 && err.Sign() == 0)
	lo, hi, e = proofs.Mean(p, box, l, node)
	expectFirst("Mean", e)
	count("Mean", e, lo.Sign() == 0 && hi.Sign() == 0)
	f, e := proofs.Poly(p, node)
	expectFirst("Poly", e)
	count("Poly", e, len(f) == 0)
	f, e = proofs.Squares(p, box, squares)
	expectFirst("Squares", e)
	count("Squares", e, len(f) == 0)
	items, boxes, e := proofs.Boxes(p, q)
	expectFirst("Boxes", e)
	count("Boxes", e, len(items) == 0 && len(boxes) == 0)
	item, e = proofs.Find(p, q, in)
	expectFirst("Find", e)
	count("Find", e, item == 0)
	joined, e := proofs.Join(p, o.Intn(4)-1, o.text(), q, q)
	expectFirst("Join", e)
	count("Join", e, proofs.Same(joined, api.Proof{}))
	var format api.Format
	if len(p.Formats) > 0 {
		format = p.Formats[o.Intn(len(p.Formats))]
	}
	most, _ := exact.Parse(o.text())
	x, e := proofs.Rounding(o.int(), format, most)
	count("Rounding", e, x.Sign() == 0)
}

// scrub clears all memory that a proof has.
func scrub(q api.Proof) {
	squares := func(l []api.PfSquare) {
		for _, s := range l {
			for _, x := range s.Poly {
				clear(x.Pows[:cap(x.Pows)])
			}
			clear(s.Poly[:cap(s.Poly)])
		}
		clear(l[:cap(l)])
	}
	for _, item := range q.Items {
		for _, c := range slices.Concat(item.Claims, item.States) {
			squares(c.Low)
			squares(c.High)
		}
		clear(item.Claims[:cap(item.Claims)])
		clear(item.States[:cap(item.States)])
	}
	clear(q.Items[:cap(q.Items)])
}

// TestR4_Memory: results share no memory with arguments or with one another.
func TestR4_Memory(t *testing.T) {
	p, q := program(t, two), ofTwo(t)
	items, boxes, e := proofs.Boxes(p, q)
	if e != api.OK || len(boxes) != 3 {
		t.Fatalf("Boxes: %v, error %d", boxes, e)
	}
	for i := range boxes {
		others := dump(boxes[i+1:], q)
		clear(boxes[i][:cap(boxes[i])])
		if dump(boxes[i+1:], q) != others {
			t.Errorf("the box of the leaf %d shares memory", items[i])
		}
	}
	full := api.PfClaim{Lo: "0", Hi: "1", Err: "0", Low: []api.PfSquare{sq("1", 0, "1 1 0; 2 0 1")}, High: []api.PfSquare{sq("1", 0, "1 1 0"), sq("2", 1, "1 1 1")}}
	a := proof("0 1 0", api.PfItem{Kind: api.PfLeaf, Claims: []api.PfClaim{full, full}, States: []api.PfClaim{full}})
	a.Items = slices.Grow(a.Items, 5)
	before := dump(a)
	joined, e := proofs.Join(p, 0, "1", a, a)
	if e != api.OK {
		t.Fatalf("Join: error %d", e)
	}
	// What belongs to one item must not belong to another one.
	second := dump(joined.Items[2])
	scrub(api.Proof{Items: joined.Items[1:2:2]})
	if dump(joined.Items[2]) != second {
		t.Error("the items of a join share memory")
	}
	scrub(joined)
	if dump(a) != before {
		t.Errorf("Join shares memory with %s", dump(a))
	}
	f, _ := proofs.Poly(p, 2)
	g, _ := proofs.Poly(p, 2)
	want := termsText(g)
	for i, x := range f {
		others := dump(f[i+1:])
		clear(x.Pows[:cap(x.Pows)])
		if dump(f[i+1:]) != others {
			t.Error("the terms of Poly share memory")
		}
	}
	clear(f[:cap(f)])
	if termsText(g) != want {
		t.Error("two results of Poly share memory")
	}
	squares := []api.PfSquare{sq("1", -1, "1 1 0")}
	before = dump(squares)
	f, _ = proofs.Squares(p, boxOf(p), squares)
	for _, x := range f {
		clear(x.Pows[:cap(x.Pows)])
	}
	if dump(squares) != before {
		t.Error("Squares shares memory with its argument")
	}
}

// TestR3_Empty: empty lists are no lists.
func TestR3_Empty(t *testing.T) {
	p := program(t, "format s 8 24; let a : s = 5; result a")
	q := p
	q.Inputs, q.States = []api.Input{}, []api.State{}
	l := api.PfItem{Kind: api.PfLeaf, Claims: claims(t, "step 5 5 0")}
	empty := l
	empty.States = []api.PfClaim{}
	empty.Claims = []api.PfClaim{{Rule: 1, Lo: "5", Hi: "5", Err: "0", Low: []api.PfSquare{}, High: []api.PfSquare{}}}
	for _, x := range []api.Prog{p, q} {
		for _, item := range []api.PfItem{l, empty} {
			expectCheck(t, "Check", 0, 0, api.OK)(proofs.Check(x, proof("5 5 0", item)))
			for _, box := range [][]api.Span{nil, {}} {
				expectTight(t, "Tight", "5 5 0", api.OK)(proofs.Tight(x, box, item, 0))
				expectMean(t, "Mean", "5 5", api.OK)(proofs.Mean(x, box, item, 0))
				expectTerms(t, "Squares", "", api.OK)(proofs.Squares(x, box, nil))
				expectTerms(t, "Squares", "", api.OK)(proofs.Squares(x, box, []api.PfSquare{}))
				expectTerms(t, "Squares", "", api.OK)(proofs.Squares(x, box, []api.PfSquare{{Coef: "1", Input: -1, Poly: []api.PfTerm{}}}))
				expectTerms(t, "Squares", "4", api.OK)(proofs.Squares(x, box, []api.PfSquare{{Coef: "1", Input: -1, Poly: []api.PfTerm{{Coef: "2", Pows: []int{}}}}}))
			}
			for _, in := range [][]api.Rat{nil, {}} {
				if at, e := proofs.Find(x, proof("5 5 0", item), in); at != 0 || e != api.OK {
					t.Errorf("Find: %d, error %d", at, e)
				}
			}
		}
		expectTerms(t, "Poly", "5", api.OK)(proofs.Poly(x, 0))
	}
}

// longNumber returns a number with as many digits as there may be, or a few less.
func longNumber(random *rand.Rand) *big.Rat {
	row := func() *big.Int {
		text := "1"
		for range api.MaxDigits - 1 {
			text += string(rune('0' + random.Intn(10)))
		}
		x, _ := new(big.Int).SetString(text, 10)
		return x
	}
	return new(big.Rat).SetFrac(row(), row())
}

// TestP1_LongNumbers: claims with as many digits as they may have come to an end.
func TestP1_LongNumbers(t *testing.T) {
	random := rand.New(rand.NewSource(1))
	p := of(t, "let a : d = fma(x, y, z); let b : d = a / x; let r : d = sqrt(b)")
	var l api.PfItem
	for range p.Nodes {
		x, y := longNumber(random), longNumber(random)
		l.Claims = append(l.Claims, api.PfClaim{Lo: toText(least(x, y)), Hi: toText(greatest(x, y)), Err: api.Rat("1/" + digits(api.MaxDigits))})
	}
	box := spans("1/2 1, 1/3 1, 1/7 1")
	for node := range p.Nodes {
		for _, rule := range []int{api.PfStep, api.PfMean} {
			l.Claims[node].Rule = rule
			m := &model{p, toSpans(box), l}
			s, e := m.tight(node)
			want := ""
			if e == api.OK {
				want = string(toText(s.lo) + " " + toText(s.hi) + " " + toText(s.err))
			}
			expectTight(t, "long numbers", want, e)(proofs.Tight(p, box, l, node))
		}
	}
	squares := make([]api.PfSquare, 20)
	for i := range squares {
		squares[i] = api.PfSquare{Coef: toText(longNumber(random)), Input: i%4 - 1}
		for k := range 3 {
			squares[i].Poly = append(squares[i].Poly, api.PfTerm{Coef: toText(longNumber(random)), Pows: []int{k, i % 3, 0}})
		}
	}
	f, e := squaresModel(toSpans(box), squares[:3])
	expectTerms(t, "long coefficients", f.text(), e)(proofs.Squares(p, box, squares[:3]))
	if l, e := proofs.Squares(p, box, squares); len(l) == 0 || e != api.OK {
		t.Errorf("many long coefficients: %d terms, error %d", len(l), e)
	}
}
