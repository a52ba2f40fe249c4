package lang

import (
	"strings"

	"vernier/api"
)

// failure is what leaves the parser, where there is an error in a line.
type failure struct {
	line int
	e    api.Errno
}

// Parse returns the program of a text.
func Parse(text string) (p api.Prog, line int, e api.Errno) {
	switch {
	case len(text) > api.MaxText:
		return api.Prog{}, 0, api.ErrLong
	case text != "" && !strings.HasSuffix(text, "\n"):
		return api.Prog{}, 0, ErrSyntax
	}
	defer func() {
		switch left := recover().(type) {
		case nil:
		case failure:
			p, line, e = api.Prog{}, left.line, left.e
		default: // no text is known to lead here; if one does, it does not end its caller
			p, line, e = api.Prog{}, 0, ErrSyntax
		}
	}()
	statements, count := readStatements(text)
	return build(statements, count), 0, api.OK
}
