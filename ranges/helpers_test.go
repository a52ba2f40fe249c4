package ranges_test

import (
	"strings"
	"testing"

	"vernier/api"
	"vernier/exact"
	"vernier/lang"
	"vernier/ranges"
)

// square is the program of the chapter's examples.
const square = "format h 5 11; input x : h from 1 to 2; let a : h = x * x; let b : h = a - x; result b"

// program parses lines that end with semicolons.
func program(t testing.TB, text string) api.Prog {
	t.Helper()
	p, line, e := lang.Parse(strings.ReplaceAll(text, ";", "\n") + "\n")
	if e != api.OK {
		t.Fatalf("line %d has the error %d: %s", line, e, text)
	}
	return p
}

// of parses lines with inputs x, y and z, and the result r; it returns the node r, too.
func of(t testing.TB, lines string) (api.Prog, int) {
	t.Helper()
	p := program(t, "format s 8 24; input x : s from 0 to 1; input y : s from 0 to 1; input z : s from 0 to 1; "+lines+"; result r")
	return p, p.Result
}

// spans reads a box such as "0 1, -1/2 3".
func spans(text string) []api.Span {
	var out []api.Span
	for part := range strings.SplitSeq(text, ",") {
		if words := strings.Fields(part); len(words) == 2 {
			out = append(out, api.Span{Lo: api.Rat(words[0]), Hi: api.Rat(words[1])})
		}
	}
	return out
}

func number(t testing.TB, text api.Rat) exact.Num {
	t.Helper()
	x, e := exact.Parse(text)
	if e != api.OK {
		t.Fatalf("%.60q: error %d", text, e)
	}
	return x
}

// numbers reads the words of a text.
func numbers(t testing.TB, text string) []exact.Num {
	t.Helper()
	var out []exact.Num
	for _, word := range strings.Fields(text) {
		out = append(out, number(t, api.Rat(word)))
	}
	return out
}

// texts writes numbers with blanks between them.
func texts(l []exact.Num) string {
	var out []string
	for _, x := range l {
		out = append(out, string(x.Text()))
	}
	return strings.Join(out, " ")
}

// interval reads two numbers.
func interval(t testing.TB, text string) ranges.Interval {
	t.Helper()
	ends := numbers(t, text)
	a, e := ranges.From(ends[0], ends[1])
	if e != api.OK {
		t.Fatalf("%s: error %d", text, e)
	}
	return a
}

// show writes an interval as interval reads it.
func show(a ranges.Interval) string { return texts([]exact.Num{a.Lo(), a.Hi()}) }

// expect expects an interval and an error; with an error the interval is zero.
func expect(t *testing.T, what, want string, wantE api.Errno) func(ranges.Interval, api.Errno) {
	return func(a ranges.Interval, e api.Errno) {
		t.Helper()
		if wantE != api.OK {
			want = "0 0"
		}
		if show(a) != want || e != wantE {
			t.Errorf("%s: %.400s, error %d, want %.400s, error %d", what, show(a), e, want, wantE)
		}
	}
}

// expectForm expects an affine form, written as its center, its slopes and its radius.
func expectForm(t *testing.T, what, want string, wantE api.Errno) func(exact.Num, []exact.Num, exact.Num, api.Errno) {
	return func(center exact.Num, slopes []exact.Num, radius exact.Num, e api.Errno) {
		t.Helper()
		if wantE != api.OK {
			want = "0 0"
		}
		got := texts(append(append([]exact.Num{center}, slopes...), radius))
		if got != want || e != wantE {
			t.Errorf("%s: %.400s, error %d, want %.400s, error %d", what, got, e, want, wantE)
		}
	}
}

// expectBound expects an interval, the number of pieces, and an error.
func expectBound(t *testing.T, what, want string, wantPieces int, wantE api.Errno) func(ranges.Interval, int, api.Errno) {
	return func(a ranges.Interval, pieces int, e api.Errno) {
		t.Helper()
		expect(t, what, want, wantE)(a, e)
		if pieces != wantPieces {
			t.Errorf("%s: %d pieces, want %d", what, pieces, wantPieces)
		}
	}
}

// digits returns an integer with so many digits, a power of ten.
func digits(count int) string { return "1" + strings.Repeat("0", count-1) }
