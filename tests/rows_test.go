package tests

import (
	"fmt"
	"math"
	"slices"
	"strings"
	"testing"

	"loop.example/boxball/impl"
)

// most is the number of signs of the longest rows.
const most = impl.BoxesMax

func TestBoxesMax(t *testing.T) {
	if impl.BoxesMax != 120 {
		t.Errorf("BoxesMax is %d", impl.BoxesMax)
	}
}

func TestRowValid(t *testing.T) {
	for _, s := range someRows() {
		if !impl.RowValid(s) {
			t.Errorf("RowValid(%q) does not hold", s)
		}
	}
	for _, s := range noRows() {
		if impl.RowValid(s) {
			t.Errorf("RowValid(%q) holds", s)
		}
	}
}

func TestNoRowFails(t *testing.T) {
	for _, s := range noRows() {
		text, ok := impl.RowTidy(s)
		wantText(t, fmt.Sprintf("RowTidy(%q)", s), text, ok, "", false)
		if n := impl.RowBalls(s); n != -1 {
			t.Errorf("RowBalls(%q) returned %d", s, n)
		}
		list, ok := impl.RowAt(s)
		wantList(t, fmt.Sprintf("RowAt(%q)", s), list, ok, nil, false)
		for _, n := range []int{-1, 0, 1} {
			text, ok = impl.RowShift(s, n)
			wantText(t, fmt.Sprintf("RowShift(%q, %d)", s, n), text, ok, "", false)
		}
		text, ok = impl.RowTurned(s)
		wantText(t, fmt.Sprintf("RowTurned(%q)", s), text, ok, "", false)
		list, ok = impl.RowLevels(s)
		wantList(t, fmt.Sprintf("RowLevels(%q)", s), list, ok, nil, false)
		if impl.RowHigh(s) {
			t.Errorf("RowHigh(%q) holds", s)
		}
	}
}

func TestPromise1TidyKeepsBalls(t *testing.T) {
	for _, s := range someRows() {
		tidy, ok := impl.RowTidy(s)
		if !ok || impl.RowBalls(tidy) != strings.Count(s, "1") || !slices.Equal(ballsIn(tidy), ballsIn(s)) {
			t.Errorf("RowTidy(%q) returned %q, %v: other balls", s, tidy, ok)
		}
	}
}

func TestPromise2TidyIsTidy(t *testing.T) {
	for _, s := range someRows() {
		tidy, ok := impl.RowTidy(s)
		wantText(t, fmt.Sprintf("RowTidy(%q)", s), tidy, ok, tidied(s), true)
		again, ok := impl.RowTidy(tidy)
		wantText(t, fmt.Sprintf("RowTidy(%q)", tidy), again, ok, tidy, true)
		if len(tidy) > len(s) || strings.HasSuffix(tidy, "0") {
			t.Errorf("RowTidy(%q) returned %q: too long, or not tidy", s, tidy)
		}
	}
}

func TestPromise3Balls(t *testing.T) {
	for _, s := range someRows() {
		n := impl.RowBalls(s)
		if at, ok := impl.RowAt(s); !ok || n != len(at) || n != strings.Count(s, "1") {
			t.Errorf("RowBalls(%q) returned %d, RowAt %v, %v", s, n, at, ok)
		}
		if shifted, ok := impl.RowShift(s, 1); ok && impl.RowBalls(shifted) != n {
			t.Errorf("RowBalls(%q) returned %d, but of %q %d", s, n, shifted, impl.RowBalls(shifted))
		}
	}
}

func TestPromise4RowOf(t *testing.T) {
	whole := make([]int, most)
	for i := range whole {
		whole[i] = i
	}
	cases := []struct {
		list []int
		want string
	}{
		{nil, ""},
		{[]int{}, ""},
		{[]int{0}, "1"},
		{[]int{3, 1}, "0101"},
		{[]int{2, 0, 1}, "111"},
		{[]int{4, 0, 2}, "10101"},
		{[]int{most - 1}, strings.Repeat("0", most-1) + "1"},
		{[]int{most - 1, 0}, "1" + strings.Repeat("0", most-2) + "1"},
		{whole, strings.Repeat("1", most)},
	}
	for _, c := range cases {
		s, ok := impl.RowOf(c.list)
		wantText(t, fmt.Sprintf("RowOf(%v)", c.list), s, ok, c.want, true)
		if impl.RowBalls(s) != len(c.list) {
			t.Errorf("RowOf(%v) returned %q: other balls", c.list, s)
		}
		turned := slices.Clone(c.list)
		slices.Reverse(turned)
		s, ok = impl.RowOf(turned)
		wantText(t, fmt.Sprintf("RowOf(%v)", turned), s, ok, c.want, true)
	}
}

func TestPromise4RowOfFails(t *testing.T) {
	lists := [][]int{
		{-1}, {0, -1}, {math.MinInt}, {most}, {0, most}, {most + 1}, {math.MaxInt},
		{0, 0}, {5, 5}, {3, 1, 3}, {3, 3, 1}, {most - 1, 2, most - 1}, {1, 2, -1, 4},
	}
	for _, list := range lists {
		s, ok := impl.RowOf(list)
		wantText(t, fmt.Sprintf("RowOf(%v)", list), s, ok, "", false)
	}
}

func TestPromise4RowOfLeavesList(t *testing.T) {
	list := []int{7, 3, 5}
	impl.RowOf(list)
	if !slices.Equal(list, []int{7, 3, 5}) {
		t.Errorf("RowOf left the list as %v", list)
	}
}

func TestPromise5RowAt(t *testing.T) {
	for _, s := range someRows() {
		at, ok := impl.RowAt(s)
		wantList(t, fmt.Sprintf("RowAt(%q)", s), at, ok, ballsIn(s), true)
		for i := 1; i < len(at); i++ {
			if at[i-1] >= at[i] {
				t.Errorf("RowAt(%q) returned %v: not ascending", s, at)
			}
		}
		row, ok := impl.RowOf(at)
		tidy, _ := impl.RowTidy(s)
		wantText(t, fmt.Sprintf("RowOf(RowAt(%q))", s), row, ok, tidy, true)
	}
}

func TestPromise6Shift(t *testing.T) {
	for _, s := range someRows() {
		for _, n := range []int{0, 1, 2, 3, 59, 60, 61, most - 1, most, most + 1} {
			call := fmt.Sprintf("RowShift(%q, %d)", s, n)
			want := tidied(strings.Repeat("0", n) + s)
			shifted, ok := impl.RowShift(s, n)
			if len(want) > most {
				wantText(t, call, shifted, ok, "", false)
				continue
			}
			wantText(t, call, shifted, ok, want, true)
			before, _ := impl.RowAt(s)
			after, _ := impl.RowAt(shifted)
			for i := range before {
				before[i] += n
			}
			wantList(t, "RowAt of "+call, after, true, before, true)
		}
	}
}

func TestPromise6ShiftLimits(t *testing.T) {
	full := strings.Repeat("1", most)
	last := strings.Repeat("0", most-1) + "1"
	cases := []struct {
		s    string
		n    int
		want string
		ok   bool
	}{
		{"1", 0, "1", true},
		{"1", most - 1, last, true},
		{"1", most, "", false},
		{"100", most - 1, last, true},
		{"1" + strings.Repeat("0", most-1), most - 1, last, true},
		{"1" + strings.Repeat("0", most-1), most, "", false},
		{full, 0, full, true},
		{full, 1, "", false},
		{last, 1, "", false},
		{"1", math.MaxInt, "", false},
		{full, math.MaxInt, "", false},
		{"1", -1, "", false},
		{"001", -1, "", false},
		{"1", math.MinInt, "", false},
		{"", -1, "", false},
		{"0", math.MinInt, "", false},
		// The row without balls stays the empty text, which is never too long.
		{"", 0, "", true},
		{"", most + 1, "", true},
		{"000", math.MaxInt, "", true},
		{strings.Repeat("0", most), 1, "", true},
	}
	for _, c := range cases {
		s, ok := impl.RowShift(c.s, c.n)
		wantText(t, fmt.Sprintf("RowShift(%q, %d)", c.s, c.n), s, ok, c.want, c.ok)
	}
}

func TestPromise7Turned(t *testing.T) {
	for _, s := range someRows() {
		call := fmt.Sprintf("RowTurned(%q)", s)
		turned, ok := impl.RowTurned(s)
		wantText(t, call, turned, ok, tidied(backward(tidied(s))), true)
		if impl.RowBalls(turned) != strings.Count(s, "1") {
			t.Errorf("%s returned %q: other balls", call, turned)
		}
		once, _ := impl.RowTurned(turned)
		twice, ok := impl.RowTurned(once)
		wantText(t, call+" turned twice more", twice, ok, turned, true)
	}
}

func TestPromise7TurnedOfCases(t *testing.T) {
	for s, want := range map[string]string{
		"":       "",
		"000":    "",
		"1":      "1",
		"0011":   "11",
		"1101":   "1011",
		"01101":  "1011",
		"110100": "1011",
		"0100":   "1",
	} {
		turned, ok := impl.RowTurned(s)
		wantText(t, fmt.Sprintf("RowTurned(%q)", s), turned, ok, want, true)
	}
}

func TestPromise8Levels(t *testing.T) {
	for _, s := range someRows() {
		call := fmt.Sprintf("RowLevels(%q)", s)
		levels, ok := impl.RowLevels(s)
		if strings.HasSuffix(s, "0") {
			wantList(t, call, levels, ok, nil, false)
			continue
		}
		if !ok || len(levels) != len(s)+1 || levels[0] != 0 {
			t.Errorf("%s returned %v, %v", call, levels, ok)
			continue
		}
		for i := range len(s) {
			step := 1
			if s[i] == '1' {
				step = -1
			}
			if levels[i+1] != levels[i]+step {
				t.Errorf("%s returned %v: wrong behind the box %d", call, levels, i)
			}
		}
		if levels[len(s)] != len(s)-2*strings.Count(s, "1") {
			t.Errorf("%s returned %v: wrong at the end", call, levels)
		}
	}
}

func TestPromise8LevelsOfCases(t *testing.T) {
	cases := []struct {
		s    string
		want []int
		ok   bool
	}{
		{"", []int{0}, true},
		{"1", []int{0, -1}, true},
		{"001", []int{0, 1, 2, 1}, true},
		{"1101", []int{0, -1, -2, -1, -2}, true},
		{"0", nil, false},
		{"10", nil, false},
		{"0010", nil, false},
		{strings.Repeat("0", most), nil, false},
		{strings.Repeat("1", most-1) + "0", nil, false},
	}
	for _, c := range cases {
		levels, ok := impl.RowLevels(c.s)
		wantList(t, fmt.Sprintf("RowLevels(%q)", c.s), levels, ok, c.want, c.ok)
	}
}

func TestPromise9High(t *testing.T) {
	for _, s := range someRows() {
		want := isHigh(s)
		if high := impl.RowHigh(s); high != want {
			t.Errorf("RowHigh(%q) returned %v", s, high)
			continue
		}
		if !want {
			continue
		}
		if 2*impl.RowBalls(s) > len(s) {
			t.Errorf("RowHigh(%q) holds, with more than half of the boxes full", s)
		}
		if shifted, ok := impl.RowShift(s, 1); ok && !impl.RowHigh(shifted) {
			t.Errorf("RowHigh(%q) holds, but not for %q", s, shifted)
		}
	}
}

// isHigh tells whether a row is tidy and none of its beginnings has more balls than empty boxes.
func isHigh(s string) bool {
	for i := range len(s) + 1 {
		if strings.Count(s[:i], "1") > strings.Count(s[:i], "0") {
			return false
		}
	}
	return !strings.HasSuffix(s, "0")
}

func TestPromise9HighOfCases(t *testing.T) {
	half := most / 2
	for s, want := range map[string]bool{
		"":      true,
		"01":    true,
		"0011":  true,
		"0101":  true,
		"001":   true,
		"1":     false,
		"011":   false,
		"10001": false,
		"01100": false,
		"0":     false,
		"010":   false,
		"00110": false,
		strings.Repeat("0", half) + strings.Repeat("1", half):       true,
		strings.Repeat("01", half):                                  true,
		strings.Repeat("0", half-1) + strings.Repeat("1", half+1):   false,
		"0" + strings.Repeat("0", half) + strings.Repeat("1", half): false,
		strings.Repeat("0", most-1) + "1":                           true,
	} {
		if high := impl.RowHigh(s); high != want {
			t.Errorf("RowHigh(%q) returned %v", s, high)
		}
	}
}

func TestRowResultsAreNew(t *testing.T) {
	at, _ := impl.RowAt("0101")
	levels, _ := impl.RowLevels("0101")
	spoil(at)
	spoil(levels)
	at, ok := impl.RowAt("0101")
	wantList(t, "RowAt, again,", at, ok, []int{1, 3}, true)
	levels, ok = impl.RowLevels("0101")
	wantList(t, "RowLevels, again,", levels, ok, []int{0, 1, 0, 1, 0}, true)
}

// spoil writes over a list and what its capacity holds behind it.
func spoil(list []int) {
	for i := range list[:cap(list)] {
		list[:cap(list)][i] = -7
	}
}
