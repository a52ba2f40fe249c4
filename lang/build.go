package lang

import (
	"strings"

	"vernier/api"
	"vernier/exact"
	"vernier/floats"
)

// Where a builder is: which line it has met last, or in which section it is.
const (
	atStart = iota
	atMode
	atFormats
	atInputs
	inHeadLines
	inLoopLines
	inRestLines
	atResult
)

// Kinds of what a name stands for.
const (
	isFormat = 1 + iota
	isNode
	isState
)

// meaning is what a name stands for: what it is, its number, and where the builder
// was at its line.
type meaning struct{ kind, number, where int }

// noNext is the Next of a state for which there was no line yet.
const noNext = -1

// builder makes a program of lines, in their order.
type builder struct {
	api.Prog
	line, where int
	names       map[string]meaning
}

// build returns the program of the lines with tokens of a text with so many lines.
func build(statements []statement, count int) api.Prog {
	b := &builder{names: map[string]meaning{}}
	for _, s := range statements {
		b.line = s.line
		where, may := b.after(s.kind)
		b.need(may, ErrOrder)
		b.where = where
		b.add(s)
	}
	b.line = count + 1
	b.need(b.where == atResult, ErrOrder)
	return b.Prog
}

// need leaves the parser with an error if something is not as it has to be.
func (b *builder) need(is bool, e api.Errno) {
	if !is {
		panic(failure{b.line, e})
	}
}

// after returns where a line of a kind leads to, and whether it may be here.
func (b *builder) after(kind string) (where int, may bool) {
	started := b.where >= atFormats
	switch kind {
	case "mode":
		return atMode, b.where == atStart
	case "format":
		return atFormats, b.where <= atFormats
	case "input":
		return atInputs, started && b.where <= atInputs
	case "state":
		return inHeadLines, started && b.where <= inHeadLines
	case "let":
		return max(b.where, inHeadLines), started && b.where <= inRestLines
	case "loop":
		return inLoopLines, b.where == inHeadLines && len(b.States) > 0
	case "next":
		return inLoopLines, b.where == inLoopLines
	case "end":
		return inRestLines, b.where == inLoopLines && b.hasAllNexts()
	}
	return atResult, b.where == inRestLines || started && b.where <= inHeadLines && len(b.States) == 0
}

func (b *builder) hasAllNexts() bool {
	for _, x := range b.States {
		if x.Next == noNext {
			return false
		}
	}
	return true
}

// add does what a line says.
func (b *builder) add(s statement) {
	switch s.kind {
	case "mode":
		b.Mode = s.mode
	case "format":
		b.addFormat(s)
	case "input":
		b.addInput(s)
	case "let":
		b.addLet(s)
	case "state":
		b.addState(s)
	case "loop":
		b.Head = len(b.Nodes)
		b.addStateNodes()
	case "next":
		b.addNext(s)
	case "end":
		b.Tail = len(b.Nodes)
		b.addStateNodes()
	case "result":
		b.addResult(s)
	}
}

// needNew leaves the parser if a name is taken.
func (b *builder) needNew(name string) {
	_, taken := b.names[name]
	b.need(!taken, ErrName)
}

// give gives a name its meaning. This is done at the end of a line, as a name means
// nothing in its own line.
func (b *builder) give(name string, kind, number int) {
	b.names[name] = meaning{kind, number, b.where}
}

// format returns the number of a format.
func (b *builder) format(name string) int {
	m := b.names[name]
	b.need(m.kind == isFormat, ErrName)
	return m.number
}

// node returns the node that a name stands for here.
func (b *builder) node(name string) int {
	m := b.names[name]
	switch {
	case m.kind == isNode && (m.where != inLoopLines || b.where == inLoopLines):
		return m.number
	case m.kind == isState && b.where == inLoopLines:
		return b.Head + m.number
	case m.kind == isState && b.where > inLoopLines:
		return b.Tail + m.number
	}
	panic(failure{b.line, ErrName})
}

// addNode appends a node, and returns its number.
func (b *builder) addNode(n api.Node) int {
	b.need(len(b.Nodes) < api.MaxNodes, api.ErrLong)
	b.Nodes = append(b.Nodes, n)
	return len(b.Nodes) - 1
}

// addStateNodes appends the nodes with which a section begins.
func (b *builder) addStateNodes() {
	for s, x := range b.States {
		b.addNode(api.Node{Op: api.OpState, A: s, Format: b.Nodes[x.Init].Format})
	}
}

func (b *builder) addFormat(s statement) {
	b.needNew(s.name)
	b.needShort(s.exponent.text)
	f := api.Format{E: s.exponent.bits, P: s.precision.bits}
	b.need(floats.Check(f) == api.OK, api.ErrRange)
	b.needShort(s.precision.text)
	b.need(len(b.Formats) < api.MaxFormats, api.ErrLong)
	b.give(s.name, isFormat, len(b.Formats))
	b.Formats = append(b.Formats, f)
}

func (b *builder) addInput(s statement) {
	b.needNew(s.name)
	format := b.format(s.format)
	lo := b.end(s.lower, format)
	hi := b.end(s.upper, format)
	b.need(lo.Cmp(hi) <= 0, api.ErrRange)
	b.need(len(b.Inputs) < api.MaxInputs, api.ErrLong)
	b.give(s.name, isNode, b.addNode(api.Node{Op: api.OpInput, A: len(b.Inputs), Format: format}))
	b.Inputs = append(b.Inputs, api.Input{Format: format, Lo: lo.Text(), Hi: hi.Text()})
}

// end returns an end of a box of values of a format.
func (b *builder) end(x bound, format int) exact.Num {
	n := b.number(x.text)
	if x.neg {
		n = n.Neg()
	}
	b.need(floats.Has(b.Formats[format], n), api.ErrRange)
	return n
}

func (b *builder) addLet(s statement) {
	b.needNew(s.name)
	b.give(s.name, isNode, b.value(s.value, b.format(s.format)))
}

func (b *builder) addState(s statement) {
	b.needNew(s.name)
	node := b.value(s.value, b.format(s.format))
	b.need(len(b.States) < api.MaxStates, api.ErrLong)
	b.give(s.name, isState, len(b.States))
	b.States = append(b.States, api.State{Init: node, Next: noNext})
}

func (b *builder) addNext(s statement) {
	m := b.names[s.name]
	b.need(m.kind == isState, ErrName)
	state := b.States[m.number]
	b.need(state.Next == noNext, ErrTwice)
	b.States[m.number].Next = b.value(s.value, b.Nodes[state.Init].Format)
}

func (b *builder) addResult(s statement) {
	b.Result = b.node(s.name)
	if len(b.States) == 0 {
		b.Head, b.Tail = len(b.Nodes), len(b.Nodes)
	}
}

// value returns the node that the expression of a line stands for, which has the
// format of the line.
func (b *builder) value(x expression, format int) int {
	node := b.evaluate(x, format)
	b.need(b.Nodes[node].Format == format, ErrFormat)
	return node
}

// evaluate returns the node that an expression stands for. Those nodes that are
// appended for it have this format, but in a cast its own.
func (b *builder) evaluate(x expression, format int) int {
	n := api.Node{Op: x.op}
	switch x.op {
	case 0:
		return b.node(x.text)
	case api.OpConst:
		n.Value = b.number(x.text).Text()
	case api.OpCast:
		format = b.format(x.text)
	}
	n.Format = format
	var kids []int
	for _, part := range x.parts {
		kids = append(kids, b.evaluate(part, format))
	}
	return b.addNode(withKids(n, kids))
}

// needShort leaves the parser if a number has too many digits.
func (b *builder) needShort(text string) {
	count := len(text) - strings.Count(text, ".")
	b.need(count <= api.MaxDigits, api.ErrLong)
}

// number returns what a number, or an exact number, stands for.
func (b *builder) number(text string) exact.Num {
	if inner, is := strings.CutPrefix(text, "{"); is {
		n, e := exact.Parse(api.Rat(strings.TrimSuffix(inner, "}")))
		b.need(e == api.OK, e)
		return n
	}
	b.needShort(text)
	whole, places, _ := strings.Cut(text, ".")
	top := integer(whole + places)
	bottom := integer("1" + strings.Repeat("0", len(places)))
	n, _ := top.Quo(bottom)
	return n
}

// integer returns what a row of digits stands for, which may begin with zeros.
func integer(row string) exact.Num {
	row = strings.TrimLeft(row, "0")
	if row == "" {
		return exact.Num{}
	}
	n, _ := exact.Parse(api.Rat(row))
	return n
}
