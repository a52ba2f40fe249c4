package lang

import (
	"strings"

	"vernier/api"
)

// Kinds of tokens. noToken is where there is none.
const (
	noToken = iota
	isWord
	isNumber
	isExact
	isSymbol
)

const (
	letters = "abcdefghijklmnopqrstuvwxyz"
	digits  = "0123456789"
)

// token is a part of a line, as it is written.
type token struct {
	kind int
	text string
}

// tokensOf returns the tokens of a line, if it consists of tokens.
func tokensOf(line string) (out []token, is bool) {
	apart := true
	for line != "" {
		if line[0] == ' ' {
			line, apart = line[1:], true
			continue
		}
		t := firstToken(line)
		if t.kind == noToken || t.kind != isSymbol && !apart {
			return nil, false
		}
		out = append(out, t)
		line, apart = line[len(t.text):], t.kind == isSymbol
	}
	return out, true
}

// firstToken returns the token at the beginning of a text that is not empty.
func firstToken(text string) token {
	switch {
	case isOneOf(text[0], letters):
		if n := span(text, letters+digits+"_"); n <= api.MaxWord {
			return token{isWord, text[:n]}
		}
	case isOneOf(text[0], digits):
		n := span(text, digits)
		if places, point := strings.CutPrefix(text[n:], "."); point && span(places, digits) > 0 {
			n += 1 + span(places, digits)
		}
		return token{isNumber, text[:n]}
	case text[0] == '{':
		n := 1 + span(text[1:], digits+"-/")
		if n > 1 && strings.HasPrefix(text[n:], "}") {
			return token{isExact, text[:n+1]}
		}
	case strings.HasPrefix(text, "<="):
		return token{isSymbol, "<="}
	case isOneOf(text[0], "+-*/(),:="):
		return token{isSymbol, text[:1]}
	}
	return token{}
}

func isOneOf(b byte, set string) bool { return strings.IndexByte(set, b) >= 0 }

// span returns how many bytes at the beginning of a text are of a set.
func span(text, set string) int { return len(text) - len(strings.TrimLeft(text, set)) }

// isReserved reports whether a word may be no name.
func isReserved(word string) bool {
	switch word {
	case "mode", "format", "input", "let", "state", "loop", "next", "end", "result",
		"from", "to", "if", "then", "else":
		return true
	}
	return calls(word) != 0
}
