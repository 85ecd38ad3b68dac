package tests

import (
	"slices"
	"strings"
	"testing"

	"loop.example/boxball/impl"
)

// shortRows returns all rows of at most n signs, tidy or not, the empty one first.
func shortRows(n int) []string {
	all := []string{""}
	for i := 0; len(all[i]) < n; i++ {
		all = append(all, all[i]+"0", all[i]+"1")
	}
	return all
}

// longRows returns rows near BoxesMax signs: of one kind of sign, with one ball, mixed, and with many empty boxes behind.
func longRows() []string {
	var all []string
	for _, n := range []int{59, 60, 61, impl.BoxesMax - 3, impl.BoxesMax - 2, impl.BoxesMax - 1, impl.BoxesMax} {
		all = append(all,
			strings.Repeat("0", n),
			strings.Repeat("1", n),
			"1"+strings.Repeat("0", n-1),
			strings.Repeat("0", n-1)+"1",
			strings.Repeat("01", n/2),
			strings.Repeat("0", n/2)+strings.Repeat("1", n-n/2))
		for seed := range 8 {
			all = append(all, mixedRow(n, seed), mixedRow(n-40, seed)+strings.Repeat("0", 40))
		}
	}
	return all
}

// mixedRow returns a row of n signs that looks irregular and is the same in each run.
func mixedRow(n, seed int) string {
	signs := make([]byte, n)
	x := uint32(seed*7919 + n)
	for i := range signs {
		x = x*1664525 + 1013904223
		signs[i] = '0' + byte(x>>16&1)
	}
	return string(signs)
}

// someRows returns the rows on which the promises are tested.
func someRows() []string {
	return append(shortRows(10), longRows()...)
}

// noRows returns texts that are no rows.
func noRows() []string {
	most := impl.BoxesMax
	return []string{
		"2", "a", " ", "-1", "01 ", " 01", "0 1", "01\n", "0,1", "/", ":", "1x", "x1", "012", "\x00", "\x01", "\xff", "10\x80",
		"\u0661", "\uff11", "1\u00a0",
		strings.Repeat("0", most+1),
		strings.Repeat("1", most+1),
		"1" + strings.Repeat("0", most),
		strings.Repeat("0", most) + "1",
		strings.Repeat("01", 5000),
		strings.Repeat("0", most) + "2",
		strings.Repeat("0", most-1) + "2",
		"2" + strings.Repeat("0", most-1),
	}
}

// tidied returns a row without the empty boxes at its end.
func tidied(s string) string {
	return strings.TrimRight(s, "0")
}

// ballsIn returns the indexes of the boxes with a ball.
func ballsIn(s string) []int {
	var at []int
	for i, sign := range s {
		if sign == '1' {
			at = append(at, i)
		}
	}
	return at
}

// backward returns a text with its bytes in the opposite order.
func backward(s string) string {
	b := []byte(s)
	slices.Reverse(b)
	return string(b)
}

// wantText checks a text and the bool behind it; what fails is told by a false ok and an empty want.
func wantText(t *testing.T, call string, got string, gotOK bool, want string, ok bool) {
	t.Helper()
	if got != want || gotOK != ok {
		t.Errorf("%s returned %q, %v; want %q, %v", call, got, gotOK, want, ok)
	}
}

// wantList checks a list and the bool behind it; what fails is told by a false ok and an empty want.
func wantList(t *testing.T, call string, got []int, gotOK bool, want []int, ok bool) {
	t.Helper()
	if !slices.Equal(got, want) || gotOK != ok {
		t.Errorf("%s returned %v, %v; want %v, %v", call, got, gotOK, want, ok)
	}
}

// wantNumber checks a number and the bool behind it; what fails is told by a false ok and a want of 0.
func wantNumber(t *testing.T, call string, got int, gotOK bool, want int, ok bool) {
	t.Helper()
	if got != want || gotOK != ok {
		t.Errorf("%s returned %d, %v; want %d, %v", call, got, gotOK, want, ok)
	}
}
