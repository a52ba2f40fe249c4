package lang

import (
	"strconv"
	"strings"

	"vernier/api"
)

// bound is an end of a box as it is written.
type bound struct {
	neg  bool
	text string
}

// expression is an expression as it is written. Its op is 0 for a name.
type expression struct {
	op     int
	text   string // of a name, a number, or the format of a cast
	parts  []expression
	levels int
}

// statement is a line that is of a kind, which its first word tells. What the kind
// does not have is zero.
type statement struct {
	line                int
	kind, name, format  string
	mode                int
	exponent, precision size
	lower, upper        bound
	value               expression
}

// size is a number of bits as it is written, and what it stands for.
type size struct {
	text string
	bits int
}

// reader goes through the tokens of a line.
type reader struct {
	line   int
	tokens []token
	depth  int // how many factors are being read, one in another
}

// readStatements returns the lines of a text that have tokens, and how many lines
// there are.
func readStatements(text string) (out []statement, count int) {
	r := &reader{}
	kinds := map[string]func(*statement){
		"mode":   r.readMode,
		"format": r.readFormat,
		"input":  r.readInput,
		"let":    r.readLet,
		"state":  r.readLet,
		"loop":   r.readNothing,
		"next":   r.readNext,
		"end":    r.readNothing,
		"result": r.readResult,
	}
	for text != "" {
		line, after, _ := strings.Cut(text, "\n")
		text = after
		r.line++
		r.scan(line)
		if len(r.tokens) == 0 {
			continue
		}
		s := statement{line: r.line, kind: r.goPast().text}
		read, is := kinds[s.kind]
		r.need(is)
		read(&s)
		r.need(len(r.tokens) == 0)
		out = append(out, s)
	}
	return out, r.line
}

func (r *reader) scan(line string) {
	tokens, is := tokensOf(line)
	r.need(is)
	r.tokens = tokens
}

// need leaves the parser if something is not as it has to be.
func (r *reader) need(is bool) {
	if !is {
		panic(failure{r.line, ErrSyntax})
	}
}

// next returns the next token.
func (r *reader) next() token {
	if len(r.tokens) == 0 {
		return token{}
	}
	return r.tokens[0]
}

// goPast returns the next token, and goes past it.
func (r *reader) goPast() token {
	t := r.next()
	r.need(t.kind != noToken)
	r.tokens = r.tokens[1:]
	return t
}

// take goes past the next token, if it is this word or symbol.
func (r *reader) take(text string) bool {
	is := r.next().text == text
	if is {
		r.goPast()
	}
	return is
}

// expect goes past this word or symbol.
func (r *reader) expect(text string) { r.need(r.take(text)) }

// takeName goes past a name.
func (r *reader) takeName() string {
	t := r.goPast()
	r.need(t.kind == isWord && !isReserved(t.text))
	return t.text
}

func (r *reader) readNothing(*statement) {}

func (r *reader) readMode(s *statement) {
	word := r.goPast().text
	for mode, text := range modes {
		if text == word {
			s.mode = mode
			return
		}
	}
	r.need(false)
}

func (r *reader) readFormat(s *statement) {
	s.name = r.takeName()
	s.exponent = r.takeSize()
	s.precision = r.takeSize()
}

func (r *reader) takeSize() size {
	t := r.goPast()
	n, err := strconv.Atoi(t.text)
	r.need(t.kind == isNumber && err == nil && 1 <= n && n <= 999)
	return size{t.text, n}
}

// readMeaning reads a name and its format.
func (r *reader) readMeaning(s *statement) {
	s.name = r.takeName()
	r.expect(":")
	s.format = r.takeName()
}

func (r *reader) readInput(s *statement) {
	r.readMeaning(s)
	r.expect("from")
	s.lower = r.takeBound()
	r.expect("to")
	s.upper = r.takeBound()
}

func (r *reader) takeBound() bound {
	neg := r.take("-")
	t := r.goPast()
	r.need(t.kind == isNumber || t.kind == isExact)
	return bound{neg, t.text}
}

func (r *reader) readLet(s *statement) {
	r.readMeaning(s)
	r.readValue(s)
}

func (r *reader) readNext(s *statement) {
	s.name = r.takeName()
	r.readValue(s)
}

func (r *reader) readValue(s *statement) {
	r.expect("=")
	s.value = r.expression()
	r.need(s.value.levels <= api.MaxNest)
}

func (r *reader) readResult(s *statement) { s.name = r.takeName() }
