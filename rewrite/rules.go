package rewrite

import "vernier/api"

// rule is what a node may become where it has a pattern, if the side condition holds.
//
// Patterns and results are texts that are gone through rune by rune. The letters a to d are
// nodes, digits are constants, and other runes operations (operation tells which): in a
// pattern an operation comes before its operands, in a result behind them. So each node is
// met when all is known that is asked for, without looking ahead.
type rule struct {
	name, pattern, result string
	holds                 func(m *match) bool // nil: there is no side condition
}

// folded is in a pattern an operation all of whose operands are constants, and in a result
// its value.
const folded = '='

// table returns the rules, from number 1 on.
func table() []rule {
	return []rule{
		{"add-swap", "+ab", "ba+", nil},
		{"mul-swap", "*ab", "ba*", nil},
		{"add-right", "++abc", "abc++", nil},
		{"add-left", "+a+bc", "ab+c+", nil},
		{"mul-right", "**abc", "abc**", nil},
		{"mul-left", "*a*bc", "ab*c*", nil},
		{"spread", "*a+bc", "ab*ac*+", nil},
		{"gather", "+*ab*ac", "abc+*", nil},
		{"sub-spread", "*a-bc", "ab*ac*-", nil},
		{"sub-gather", "-*ab*ac", "abc-*", nil},
		{"sub-add", "-ab", "ab~+", nil},
		{"add-sub", "+a~b", "ab-", nil},
		{"neg-neg", "~~a", "a", nil},
		{"neg-mul", "*~ab", "ab*~", nil},
		{"double", "+aa", "2a*", nil},
		{"squares", "-*aa*bb", "ab-ab+*", nil},
		{"sub-same", "-aa", "0", nil},
		{"add-back", "-+aba", "b", nil},
		{"sub-left", "--abc", "abc+-", nil},
		{"add-zero", "+a0", "a", nil},
		{"mul-one", "*a1", "a", nil},
		{"fuse", "+*abc", "abcF", nil},
		{"unfuse", "Fabc", "ab*c+", nil},
		{"div-spread", "/+abc", "ac/bc/+", nil},
		{"div-gather", "+/ac/bc", "ab+c/", nil},
		{"mul-div", "*/abc", "ac*b/", nil},
		{"div-div", "//abc", "abc*/", nil},
		{"root-same", "*RaRa", "a", nil},
		{"root-square", "R*aa", "aA", nil},
		{"root-mul", "*RaRb", "ab*R", nil},
		{"conjugate", "-RaRb", "ab-aRbR+/", rootsAreAboveZero},
		{"abs-same", "Aa", "a", aIsNotBelowZero},
		{"min-left", "Lab", "a", aIsAtMostB},
		{"min-right", "Lab", "b", bIsAtMostA},
		{"max-left", "Gab", "a", bIsAtMostA},
		{"max-right", "Gab", "b", aIsAtMostB},
		{"sel-then", "Sabcd", "c", aIsAtMostB},
		{"sel-else", "Sabcd", "d", aIsAboveB},
		{"cast", "Ta", "a", nil},
		{"fold", "=", "=", hasConstantValue},
	}
}

// numbered returns the rule with a number, if there is one.
func numbered(number int) (r rule, is bool) {
	l := table()
	if number < 1 || number > len(l) {
		return rule{}, false
	}
	return l[number-1], true
}

// operation returns the operation of a rune, or 0.
func operation(sign rune) int {
	switch sign {
	case '~':
		return api.OpNeg
	case 'A':
		return api.OpAbs
	case 'R':
		return api.OpSqrt
	case 'T':
		return api.OpCast
	case '+':
		return api.OpAdd
	case '-':
		return api.OpSub
	case '*':
		return api.OpMul
	case '/':
		return api.OpDiv
	case 'L':
		return api.OpMin
	case 'G':
		return api.OpMax
	case 'F':
		return api.OpFma
	case 'S':
		return api.OpSel
	}
	return 0
}

func isLetter(sign rune) bool { return 'a' <= sign && sign <= 'd' }

func isDigit(sign rune) bool { return '0' <= sign && sign <= '9' }
