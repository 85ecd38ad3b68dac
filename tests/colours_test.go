package tests

import (
	"fmt"
	"math"
	"strings"
	"testing"

	"loop.example/boxball/impl"
)

// colourSigns are the signs of the colours, in the order of their numbers.
var colourSigns = []string{"1", "2", "3"}

// badColours are numbers that no colour has.
var badColours = []int{0, -1, -2, -3, math.MinInt, 4, 5, '1', '3', 1<<8 + 1, 1<<16 + 2, math.MaxInt}

// countsIn returns how many balls of the colours 1, 2 and 3 there are.
func countsIn(s string) []int {
	return []int{strings.Count(s, "1"), strings.Count(s, "2"), strings.Count(s, "3")}
}

// wantCounts checks that a row that is returned has given numbers of balls.
func wantCounts(t *testing.T, call, s string, want []int) {
	t.Helper()
	counts, ok := impl.ColourCounts(s)
	wantList(t, "ColourCounts of "+call, counts, ok, want, true)
}

func TestNoColouredRowFails(t *testing.T) {
	for _, s := range noColoured() {
		if impl.ColourIn(s) {
			t.Errorf("ColourIn(%q) holds", s)
		}
		counts, ok := impl.ColourCounts(s)
		wantList(t, fmt.Sprintf("ColourCounts(%q)", s), counts, ok, nil, false)
		text, ok := impl.ColourStep(s)
		wantText(t, fmt.Sprintf("ColourStep(%q)", s), text, ok, "", false)
		text, ok = impl.ColourBack(s)
		wantText(t, fmt.Sprintf("ColourBack(%q)", s), text, ok, "", false)
		for _, c := range []int{1, 2, 3, 0, 4} {
			text, ok = impl.ColourMove(s, c)
			wantText(t, fmt.Sprintf("ColourMove(%q, %d)", s, c), text, ok, "", false)
			text, ok = impl.ColourPlain(s, c)
			wantText(t, fmt.Sprintf("ColourPlain(%q, %d)", s, c), text, ok, "", false)
		}
	}
}

func TestNoColourFails(t *testing.T) {
	for _, s := range append(shortColoured(3), longColoured()...) {
		for _, c := range badColours {
			text, ok := impl.ColourMove(s, c)
			wantText(t, fmt.Sprintf("ColourMove(%q, %d)", s, c), text, ok, "", false)
			text, ok = impl.ColourPlain(s, c)
			wantText(t, fmt.Sprintf("ColourPlain(%q, %d)", s, c), text, ok, "", false)
		}
	}
}

func TestPromise36In(t *testing.T) {
	for _, s := range someColoured() {
		if !impl.ColourIn(s) {
			t.Errorf("ColourIn(%q) does not hold", s)
		}
		counts, ok := impl.ColourCounts(s)
		plain, told := impl.ColourPlain(s, 1)
		if !ok || !told || sum(counts) != impl.RowBalls(plain) {
			t.Errorf("ColourCounts(%q) returned %v, %v, but ColourPlain %q, %v", s, counts, ok, plain, told)
		}
	}
}

func TestPromise36InOfCases(t *testing.T) {
	for s, want := range map[string]bool{
		"":                            true,
		"0":                           true,
		"3":                           true,
		"4":                           false,
		"0123":                        true,
		"01234":                       false,
		"3210000":                     true,
		zeros(most):                   true,
		zeros(most + 1):               false,
		strings.Repeat("3", most):     true,
		strings.Repeat("3", most+1):   false,
		strings.Repeat("3", most-1):   true,
		zeros(most-1) + "2":           true,
		zeros(most-1) + "/":           false,
		"21" + zeros(most-2) + "0":    false,
		"21" + zeros(most-3) + "\x00": false,
	} {
		if got := impl.ColourIn(s); got != want {
			t.Errorf("ColourIn(%q) returned %v", s, got)
		}
	}
}

func TestPromise37Counts(t *testing.T) {
	for _, s := range someColoured() {
		counts, ok := impl.ColourCounts(s)
		wantList(t, fmt.Sprintf("ColourCounts(%q)", s), counts, ok, countsIn(s), true)
		for c := 1; c <= 3 && ok; c++ {
			plain, told := impl.ColourPlain(s, c)
			if !told || impl.RowBalls(plain) != sum(counts[c-1:]) {
				t.Errorf("ColourPlain(%q, %d) returned %q, %v, but ColourCounts %v", s, c, plain, told, counts)
			}
		}
	}
}

func TestPromise37CountsOfCases(t *testing.T) {
	cases := []struct {
		s    string
		want []int
	}{
		{"", []int{0, 0, 0}},
		{"0000", []int{0, 0, 0}},
		{"1", []int{1, 0, 0}},
		{"2", []int{0, 1, 0}},
		{"3", []int{0, 0, 1}},
		{"0323300", []int{0, 1, 3}},
		{"112", []int{2, 1, 0}},
		{ones(most), []int{most, 0, 0}},
		{strings.Repeat("2", most), []int{0, most, 0}},
		{strings.Repeat("3", most), []int{0, 0, most}},
		{zeros(most), []int{0, 0, 0}},
		{strings.Repeat("1203", most/4), []int{most / 4, most / 4, most / 4}},
	}
	for _, c := range cases {
		counts, ok := impl.ColourCounts(c.s)
		wantList(t, fmt.Sprintf("ColourCounts(%q)", c.s), counts, ok, c.want, true)
	}
}

func TestPromise37CountsAreNew(t *testing.T) {
	counts, _ := impl.ColourCounts("112033")
	spoil(counts)
	counts, ok := impl.ColourCounts("112033")
	wantList(t, "ColourCounts, again,", counts, ok, []int{2, 1, 2}, true)
}

func TestPromise38Move(t *testing.T) {
	for _, s := range someColoured() {
		for i, sign := range colourSigns {
			call := fmt.Sprintf("ColourMove(%q, %d)", s, i+1)
			want := movedOn(s, sign)
			got, ok := impl.ColourMove(s, i+1)
			if len(want) > most {
				wantText(t, call, got, ok, "", false)
				continue
			}
			wantText(t, call, got, ok, want, true)
			wantCounts(t, call, got, countsIn(s))
			for at := range s {
				if stays := s[at] != '0' && s[at] != sign[0]; stays && (at >= len(got) || got[at] != s[at]) {
					t.Errorf("%s returned %q: the ball in the box %d has moved", call, got, at)
				}
			}
		}
	}
}

func TestPromise38MoveOfCases(t *testing.T) {
	cases := []struct {
		s    string
		c    int
		want string
	}{
		{"", 1, ""},
		{"", 3, ""},
		{"0000", 2, ""},
		// One colour alone.
		{"1", 1, "01"},
		{"2000", 2, "02"},
		{"33", 3, "0033"},
		{"30033", 3, "0300033"},
		{"22020", 2, "002022"},
		// A box that had a ball of the colour is passed over, also if this has moved away.
		{"101", 1, "0101"},
		{"1101", 1, "001011"},
		{"3303", 3, "003033"},
		{"11201", 1, "0021011"},
		// No ball of the colour.
		{"1", 2, "1"},
		{"1", 3, "1"},
		{"230200", 1, "2302"},
		// Behind balls of other colours.
		{"12", 1, "021"},
		{"12", 2, "102"},
		{"21", 1, "201"},
		{"21", 2, "012"},
		{"1233", 1, "02331"},
		{"1213", 1, "020311"},
		{"13021", 1, "031201"},
		{"3213", 3, "021033"},
		{"22133", 2, "0013322"},
		{"2201303", 2, "0021323"},
		{"312312", 3, "01201233"},
	}
	for _, c := range cases {
		got, ok := impl.ColourMove(c.s, c.c)
		wantText(t, fmt.Sprintf("ColourMove(%q, %d)", c.s, c.c), got, ok, c.want, true)
	}
}

func TestPromise38MoveLimits(t *testing.T) {
	half := most / 2
	for i, sign := range colourSigns {
		other := colourSigns[(i+1)%3]
		for _, c := range []struct {
			s, want string
			ok      bool
		}{
			{zeros(most-2) + sign, zeros(most-1) + sign, true},
			{zeros(most-2) + sign + "0", zeros(most-1) + sign, true},
			{zeros(most-1) + sign, "", false},
			{strings.Repeat(sign, half), zeros(half) + strings.Repeat(sign, half), true},
			{strings.Repeat(sign, half) + zeros(half), zeros(half) + strings.Repeat(sign, half), true},
			{strings.Repeat(sign, half+1), "", false},
			{strings.Repeat(sign, most), "", false},
			{zeros(most-1) + other, zeros(most-1) + other, true},
			{strings.Repeat(other, most), strings.Repeat(other, most), true},
			{sign + strings.Repeat(other, most-2), "0" + strings.Repeat(other, most-2) + sign, true},
			{sign + strings.Repeat(other, most-2) + "0", "0" + strings.Repeat(other, most-2) + sign, true},
			{sign + strings.Repeat(other, most-1), "", false},
			{sign + sign + strings.Repeat(other, most-4), "00" + strings.Repeat(other, most-4) + sign + sign, true},
			{sign + sign + strings.Repeat(other, most-3), "", false},
			{sign + zeros(most-2) + other, "0" + sign + zeros(most-3) + other, true},
			{zeros(most-2) + sign + other, "", false},
		} {
			got, ok := impl.ColourMove(c.s, i+1)
			wantText(t, fmt.Sprintf("ColourMove(%q, %d)", c.s, i+1), got, ok, c.want, c.ok)
		}
	}
}

func TestPromise39Step(t *testing.T) {
	for _, s := range someColoured() {
		call := fmt.Sprintf("ColourStep(%q)", s)
		want := colourStepped(s)
		got, ok := impl.ColourStep(s)
		if len(want) > most {
			wantText(t, call, got, ok, "", false)
			continue
		}
		wantText(t, call, got, ok, want, true)
		wantCounts(t, call, got, countsIn(s))
		back, ok := impl.ColourBack(got)
		wantText(t, "ColourBack of "+call, back, ok, tidied(s), true)
	}
}

// colouredCase is a coloured row and what a call with it returns.
type colouredCase struct {
	s, want string
	ok      bool
}

// colouredSteps returns coloured steps, among them some whose results are about as long as a row may be.
func colouredSteps() []colouredCase {
	half := most / 2
	return []colouredCase{
		{"", "", true},
		{"0000", "", true},
		{zeros(most), "", true},
		{"1", "01", true},
		{"2", "02", true},
		{"300", "03", true},
		{"12", "0012", true},
		{"21", "021", true},
		{"13", "0013", true},
		{"31", "031", true},
		{"23", "0023", true},
		{"32", "032", true},
		{"123", "000123", true},
		{"321", "0321", true},
		{"132", "00312", true},
		{"112", "000112", true},
		{"221", "00212", true},
		{"2011", "020011", true},
		{zeros(most-2) + "3", zeros(most-1) + "3", true},
		{zeros(most-3) + "30", zeros(most-2) + "3", true},
		{zeros(most-1) + "3", "", false},
		{zeros(most-1) + "1", "", false},
		// The first move is too long, or only a later one.
		{zeros(most-3) + "21", zeros(most-2) + "21", true},
		{zeros(most-2) + "21", "", false},
		{zeros(most-4) + "12", zeros(most-2) + "12", true},
		{zeros(most-3) + "12", "", false},
		{zeros(most-2) + "12", "", false},
		{zeros(most-3) + "23", "", false},
		{"1" + zeros(most-2) + "2", "", false},
		{"2" + zeros(most-2) + "3", "", false},
		{strings.Repeat("2", half), zeros(half) + strings.Repeat("2", half), true},
		{strings.Repeat("3", half+1), "", false},
		{strings.Repeat("1", half/2) + strings.Repeat("3", half/2), zeros(half) + strings.Repeat("1", half/2) + strings.Repeat("3", half/2), true},
		{strings.Repeat("3210", most/4), strings.Repeat("0321", most/4), true},
		{"0" + strings.Repeat("321", (most-1)/3), "", false},
		{ones(most), "", false},
		{strings.Repeat("3", most), "", false},
	}
}

func TestPromise39StepOfCases(t *testing.T) {
	for _, c := range colouredSteps() {
		got, ok := impl.ColourStep(c.s)
		wantText(t, fmt.Sprintf("ColourStep(%q)", c.s), got, ok, c.want, c.ok)
		if !ok {
			continue
		}
		back, ok := impl.ColourBack(c.want)
		wantText(t, fmt.Sprintf("ColourBack(%q)", c.want), back, ok, tidied(c.s), true)
	}
}

func TestPromise40OneColour(t *testing.T) {
	for _, s := range someRows() {
		want, told := impl.StepGreat(s)
		for _, sign := range colourSigns {
			coloured := strings.ReplaceAll(s, "1", sign)
			got, ok := impl.ColourStep(coloured)
			wantText(t, fmt.Sprintf("ColourStep(%q)", coloured), got, ok, strings.ReplaceAll(want, "1", sign), told)
		}
	}
}

func TestPromise41Back(t *testing.T) {
	for _, s := range someColoured() {
		call := fmt.Sprintf("ColourBack(%q)", s)
		want, told := colourSteppedBack(s)
		back, ok := impl.ColourBack(s)
		wantText(t, call, back, ok, want, told)
		if !ok {
			continue
		}
		again, ok := impl.ColourStep(back)
		wantText(t, "ColourStep of "+call, again, ok, tidied(s), true)
	}
}

func TestPromise41BackOfCases(t *testing.T) {
	half := most / 2
	for _, c := range []colouredCase{
		{"", "", true},
		{"000", "", true},
		{zeros(most), "", true},
		{"01", "1", true},
		{"0300", "3", true},
		{"0033", "33", true},
		{"0303", "303", true},
		{"021", "21", true},
		{"0012", "12", true},
		{"00312", "132", true},
		{"00312000", "132", true},
		{"000112", "112", true},
		{"020011", "2011", true},
		{zeros(most-1) + "3", zeros(most-2) + "3", true},
		{zeros(most-2) + "12", zeros(most-4) + "12", true},
		{zeros(most-2) + "21", zeros(most-3) + "21", true},
		{zeros(half) + strings.Repeat("2", half), strings.Repeat("2", half), true},
		{strings.Repeat("0321", most/4), tidied(strings.Repeat("3210", most/4)), true},
		// No box ahead of the box 0.
		{"1", "", false},
		{"2", "", false},
		{"3000", "", false},
		{"11", "", false},
		{"011", "", false},
		{"033", "", false},
		{"10101", "", false},
		{"3" + zeros(most-1), "", false},
		{strings.Repeat("3", most), "", false},
		{zeros(half-1) + strings.Repeat("2", half+1), "", false},
		// The boxes ahead have balls of other colours, or get them by the move of another one.
		{"12", "", false},
		{"0132", "", false},
		{"012", "", false},
		{"103", "", false},
		{"01203", "", false},
	} {
		back, ok := impl.ColourBack(c.s)
		wantText(t, fmt.Sprintf("ColourBack(%q)", c.s), back, ok, c.want, c.ok)
	}
}

func TestPromise42Plain(t *testing.T) {
	for _, s := range someColoured() {
		all, _ := impl.ColourPlain(s, 1)
		for i, signs := range []string{"123", "23", "3"} {
			call := fmt.Sprintf("ColourPlain(%q, %d)", s, i+1)
			got, ok := impl.ColourPlain(s, i+1)
			wantText(t, call, got, ok, tidied(plainFor(s, signs)), true)
			tidy, ok := impl.RowTidy(got)
			wantText(t, "RowTidy of "+call, tidy, ok, got, true)
			for at := range got {
				if got[at] == '1' && (at >= len(all) || all[at] != '1') {
					t.Errorf("%s returned %q, but for the colour 1 %q", call, got, all)
				}
			}
		}
	}
}

func TestPromise42PlainOfCases(t *testing.T) {
	cases := []struct {
		s    string
		c    int
		want string
	}{
		{"", 1, ""},
		{"", 3, ""},
		{"0000", 1, ""},
		{"0123", 1, "0111"},
		{"0123", 2, "0011"},
		{"0123", 3, "0001"},
		{"3210", 1, "111"},
		{"3210", 2, "11"},
		{"3210", 3, "1"},
		{"1111", 2, ""},
		{"02020", 3, ""},
		{ones(most), 1, ones(most)},
		{ones(most), 2, ""},
		{strings.Repeat("3", most), 3, ones(most)},
		{strings.Repeat("2", most), 2, ones(most)},
		{strings.Repeat("2", most-1) + "3", 3, zeros(most-1) + "1"},
	}
	for _, c := range cases {
		got, ok := impl.ColourPlain(c.s, c.c)
		wantText(t, fmt.Sprintf("ColourPlain(%q, %d)", c.s, c.c), got, ok, c.want, true)
	}
}
