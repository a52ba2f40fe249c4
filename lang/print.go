package lang

import (
	"strconv"
	"strings"

	"vernier/api"
)

// modes has the words of the modes.
var modes = [...]string{api.RnEven: "even", api.RnAway: "away", api.RnTrunc: "zero", api.RnUp: "up", api.RnDown: "down"}

// printer writes a program that is a canonical form.
type printer struct {
	api.Prog
	text strings.Builder
}

// Print returns the canonical text.
func Print(p api.Prog) (string, api.Errno) {
	q, _, e := Canon(p)
	if e != api.OK {
		return "", e
	}
	w := &printer{Prog: q}
	w.program()
	if w.text.Len() > api.MaxText {
		return "", api.ErrLong
	}
	return w.text.String(), api.OK
}

func (w *printer) program() {
	w.line("mode", modes[w.Mode])
	for i, f := range w.Formats {
		w.line("format", named("f", i), strconv.Itoa(f.E), strconv.Itoa(f.P))
	}
	for i, in := range w.Inputs {
		w.line("input", named("x", i), ":", named("f", in.Format), "from", number(in.Lo), "to", number(in.Hi))
	}
	w.lets(0, w.Head)
	if len(w.States) > 0 {
		w.loop()
	}
	w.lets(w.Tail, len(w.Nodes))
	w.line("result", w.name(w.Result))
}

func (w *printer) loop() {
	for s, x := range w.States {
		w.line("state", named("s", s), ":", named("f", w.Nodes[x.Init].Format), "=", w.name(x.Init))
	}
	w.line("loop")
	w.lets(w.Head, w.Tail)
	for s, x := range w.States {
		w.line("next", named("s", s), "=", w.name(x.Next))
	}
	w.line("end")
}

// lets writes the nodes from one on, and before another one, but those that other
// lines stand for.
func (w *printer) lets(from, to int) {
	for i := from; i < to; i++ {
		n := w.Nodes[i]
		if n.Op != api.OpInput && n.Op != api.OpState {
			w.line("let", w.name(i), ":", named("f", n.Format), "=", w.operation(n))
		}
	}
}

// line writes a line of parts with blanks between them.
func (w *printer) line(parts ...string) {
	w.text.WriteString(strings.Join(parts, " "))
	w.text.WriteByte('\n')
}

func named(letter string, number int) string { return letter + strconv.Itoa(number) }

// number returns an exact number.
func number(r api.Rat) string { return "{" + string(r) + "}" }

// name returns the name of a node.
func (w *printer) name(i int) string {
	n := w.Nodes[i]
	switch n.Op {
	case api.OpInput:
		return named("x", n.A)
	case api.OpState:
		return named("s", n.A)
	}
	return named("n", i)
}

// operation returns what a node is, by the names of its operands.
func (w *printer) operation(n api.Node) string {
	var names []string
	for _, k := range Kids(n) {
		names = append(names, w.name(k))
	}
	o := operations[n.Op]
	switch {
	case o.way == between:
		return names[0] + " " + o.text + " " + names[1]
	case o.way == asCall:
		return o.text + "(" + strings.Join(names, ", ") + ")"
	case n.Op == api.OpCast:
		return named("f", n.Format) + "(" + names[0] + ")"
	case n.Op == api.OpNeg:
		return "- " + names[0]
	case n.Op == api.OpSel:
		return "if " + names[0] + " <= " + names[1] + " then " + names[2] + " else " + names[3]
	}
	return number(n.Value)
}
