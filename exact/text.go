package exact

import (
	"iter"
	"strconv"
	"strings"

	"vernier/api"
)

// The digits of texts are worked on in groups that fit into a word.
const (
	groupDigits = 19
	groupUnit   = 10_000_000_000_000_000_000 // 10 to the power groupDigits
)

// Check checks a text.
func Check(r api.Rat) api.Errno {
	_, e := Parse(r)
	return e
}

// Parse reads a text.
func Parse(r api.Rat) (Num, api.Errno) {
	text, neg := strings.CutPrefix(string(r), "-")
	topRow, bottomRow, slash := strings.Cut(text, "/")
	switch {
	case !isRow(topRow) || neg && topRow == "0":
		return Num{}, api.ErrForm
	case slash && (!isRow(bottomRow) || bottomRow == "0" || bottomRow == "1"):
		return Num{}, api.ErrForm
	case len(topRow) > api.MaxDigits || len(bottomRow) > api.MaxDigits:
		return Num{}, api.ErrLong
	case !slash:
		return fraction(neg, fromDigits(topRow), nil, 0), api.OK
	}
	top, bottom := fromDigits(topRow), fromDigits(bottomRow)
	if !lowestTerms(top, bottom) {
		return Num{}, api.ErrForm
	}
	return fraction(neg, top, bottom, 0), api.OK
}

// isRow reports whether a row has digits alone, and does not begin with 0 unless
// it is 0 alone.
func isRow(row string) bool {
	for i := range len(row) {
		if row[i] < '0' || row[i] > '9' {
			return false
		}
	}
	return row == "0" || row != "" && row[0] != '0'
}

// lowestTerms reports whether top and bottom, which is above 1, have no common
// divisor.
func lowestTerms(top, bottom natural) bool {
	if len(top) == 0 || top[0]%2 == 0 && bottom[0]%2 == 0 {
		return false
	}
	return gcd(top, bottom).isOne()
}

// groups yields the digits of a row, the highest ones first, in groups of
// groupDigits; the first group may be shorter.
func groups(row string) iter.Seq[string] {
	return func(yield func(string) bool) {
		for row != "" {
			n := (len(row)-1)%groupDigits + 1
			if !yield(row[:n]) {
				return
			}
			row = row[n:]
		}
	}
}

// fromDigits returns the number that a row of digits is.
func fromDigits(row string) natural {
	var n natural
	for group := range groups(row) {
		word, _ := strconv.ParseUint(group, 10, 64) // a group of digits always fits
		n = n.scale(groupUnit, word)
	}
	return n
}

// Text returns the text.
func (x Num) Text() api.Rat {
	if x.top == nil {
		return "0"
	}
	top, bottom := x.parts()
	text := top.digits()
	if x.neg {
		text = "-" + text
	}
	if !bottom.isOne() {
		text += "/" + bottom.digits()
	}
	return api.Rat(text)
}

// digits returns the decimal digits of n, which is above 0. It is divided into
// halves again and again, which is faster than group by group.
func (n natural) digits() string {
	var units []natural
	for unit := fromWord(groupUnit); unit.cmp(n) <= 0; unit = unit.mul(unit) {
		units = append(units, unit)
	}
	return strings.TrimLeft(string(n.appendDigits(nil, units)), "0")
}

// appendDigits appends the digits of n, with zeros before them. n is below the
// square of the last unit, each unit is the square of the one before it, and
// without units n is below groupUnit.
func (n natural) appendDigits(out []byte, units []natural) []byte {
	if len(units) == 0 {
		group := strconv.FormatUint(n.word(0), 10)
		out = append(out, strings.Repeat("0", groupDigits-len(group))...)
		return append(out, group...)
	}
	last := len(units) - 1
	high, low := n.divide(units[last])
	out = high.appendDigits(out, units[:last])
	return low.appendDigits(out, units[:last])
}

// Digits returns how many decimal digits the greater part has.
func (x Num) Digits() int {
	if x.top == nil {
		return 1
	}
	top, bottom := x.parts()
	if top.cmp(bottom) < 0 {
		return bottom.countDigits()
	}
	return top.countDigits()
}

// countDigits returns how many decimal digits n has, which is above 0. It counts
// on from a power of 10 that is not above n, and close to it: 10 to the power
// 30102999 is just below 2 to the power 100000000.
func (n natural) countDigits() int {
	count := (n.size() - 1) * 30102999 / 100000000
	for unit := fromWord(10).power(count); unit.cmp(n) <= 0; unit = unit.scale(10, 0) {
		count++
	}
	return count
}
