package tests

import (
	"fmt"
	"math"
	"slices"
	"strings"
	"testing"

	"loop.example/boxball/impl"
)

func TestNoCircleFails(t *testing.T) {
	for _, s := range noCircles() {
		if impl.CircleIn(s) {
			t.Errorf("CircleIn(%q) holds", s)
		}
		text, ok := impl.CircleTurn(s)
		wantText(t, fmt.Sprintf("CircleTurn(%q)", s), text, ok, "", false)
		text, ok = impl.CircleBack(s)
		wantText(t, fmt.Sprintf("CircleBack(%q)", s), text, ok, "", false)
		for _, n := range []int{0, 1, len(s), -1, len(s) + 1} {
			text, ok = impl.CircleRotate(s, n)
			wantText(t, fmt.Sprintf("CircleRotate(%q, %d)", s, n), text, ok, "", false)
		}
		sizes, ok := impl.CircleShape(s)
		wantList(t, fmt.Sprintf("CircleShape(%q)", s), sizes, ok, nil, false)
		period, ok := impl.CirclePeriod(s)
		wantNumber(t, fmt.Sprintf("CirclePeriod(%q)", s), period, ok, 0, false)
	}
}

func TestRotationOutOfRangeFails(t *testing.T) {
	for _, s := range someCircles() {
		for _, n := range []int{-1, -2, -len(s), math.MinInt, len(s) + 1, len(s) + 2, 2 * len(s), 256 + len(s), math.MaxInt32, math.MaxInt} {
			text, ok := impl.CircleRotate(s, n)
			wantText(t, fmt.Sprintf("CircleRotate(%q, %d)", s, n), text, ok, "", false)
		}
	}
}

func TestPromise43In(t *testing.T) {
	for _, s := range append(shortRows(11), longRows()...) {
		if got := impl.CircleIn(s); got != isCircle(s) {
			t.Errorf("CircleIn(%q) returned %v", s, got)
		}
	}
	for _, s := range someCircles() {
		if !impl.CircleIn(s) || 2*impl.RowBalls(s) >= len(s) {
			t.Errorf("CircleIn(%q) returned %v, with %d balls", s, impl.CircleIn(s), impl.RowBalls(s))
		}
		text, ok := impl.CircleRotate(s, len(s))
		wantText(t, fmt.Sprintf("CircleRotate(%q, %d)", s, len(s)), text, ok, s, true)
	}
}

func TestPromise43InOfCases(t *testing.T) {
	for s, want := range map[string]bool{
		"":                          false,
		"0":                         true,
		"1":                         false,
		"00":                        true,
		"01":                        false,
		"10":                        false,
		"001":                       true,
		"010":                       true,
		"100":                       true,
		"101":                       false,
		"0101":                      false,
		"10100":                     true,
		"11010":                     false,
		"0002":                      false,
		zeros(60):                   true,
		zeros(61):                   false,
		ones(29) + zeros(30):        true,
		ones(29) + zeros(31):        true,
		ones(30) + zeros(30):        false,
		zeros(30) + ones(29):        true,
		zeros(30) + ones(30):        false,
		strings.Repeat("01", 30):    false,
		"00" + ones(29) + zeros(29): true,
		"00" + ones(29) + zeros(30): false,
		zeros(59) + "2":             false,
	} {
		if got := impl.CircleIn(s); got != want {
			t.Errorf("CircleIn(%q) returned %v", s, got)
		}
	}
}

func TestPromise44Turn(t *testing.T) {
	for _, s := range someCircles() {
		call := fmt.Sprintf("CircleTurn(%q)", s)
		got, ok := impl.CircleTurn(s)
		wantText(t, call, got, ok, exchanged(s, 1), true)
		wantText(t, "against a carrier led round twice, "+call, got, ok, ledRound(s), true)
		if len(got) != len(s) || impl.RowBalls(got) != impl.RowBalls(s) {
			t.Errorf("%s returned %q", call, got)
			continue
		}
		for i := range s {
			if s[i] == '1' && got[i] == '1' {
				t.Errorf("%s returned %q: the box %d still has a ball", call, got, i)
			}
		}
		back, ok := impl.CircleBack(got)
		wantText(t, "CircleBack of "+call, back, ok, s, true)
	}
}

// circleCase is a circle and the one behind a turn.
type circleCase struct {
	s, turn string
}

// circleCases returns circles of each kind, with pairs round the end and without.
func circleCases() []circleCase {
	return []circleCase{
		// Without a ball, down to the one empty box.
		{"0", "0"},
		{"00", "00"},
		{zeros(59), zeros(59)},
		{zeros(60), zeros(60)},
		// One ball, at the first sign, between, and at the last one.
		{"100", "010"},
		{"010", "001"},
		{"001", "100"},
		{"1" + zeros(59), "01" + zeros(58)},
		{zeros(58) + "10", zeros(59) + "1"},
		{zeros(59) + "1", "1" + zeros(59)},
		// The last sign and the first one are next to each other.
		{"10001", "01100"},
		{"11000", "00110"},
		{"00011", "11000"},
		{"00110", "10001"},
		{"01100", "00011"},
		{"1000001", "0110000"},
		{"1100001", "0011100"},
		{"1000011", "0111000"},
		// Pairs round the end, with other pairs between.
		{"0001101", "1100010"},
		{"0011010", "1000101"},
		{"1000110", "0110001"},
		{"0100011", "1011000"},
		{"1010001", "0101100"},
		{"0010011", "1101000"},
		{"01000101", "10100010"},
		{"001000101", "100100010"},
		{"000100111", "111010000"},
		{"010000111", "101110000"},
		// One empty box more than balls.
		{"10100", "01010"},
		{"01001", "10100"},
		{"1110000", "0001110"},
		{"0000111", "1110000"},
		{"1010100", "0101010"},
		{"0101010", "0010101"},
		{"0010101", "1001010"},
		{ones(29) + zeros(30), zeros(29) + ones(29) + "0"},
		{zeros(30) + ones(29), ones(29) + zeros(30)},
		{"0" + ones(29) + zeros(29), zeros(30) + ones(29)},
		{strings.Repeat("10", 29) + "0", strings.Repeat("01", 29) + "0"},
		{"0" + strings.Repeat("01", 29), "100" + strings.Repeat("10", 28)},
		// Exactly 60 signs.
		{ones(29) + zeros(31), zeros(29) + ones(29) + "00"},
		{zeros(31) + ones(29), ones(29) + zeros(31)},
		{ones(14) + zeros(31) + ones(15), zeros(14) + ones(29) + zeros(17)},
	}
}

func TestPromise44TurnOfCases(t *testing.T) {
	for _, c := range circleCases() {
		got, ok := impl.CircleTurn(c.s)
		wantText(t, fmt.Sprintf("CircleTurn(%q)", c.s), got, ok, c.turn, true)
	}
}

func TestPromise45Back(t *testing.T) {
	for _, s := range someCircles() {
		call := fmt.Sprintf("CircleBack(%q)", s)
		back, ok := impl.CircleBack(s)
		wantText(t, call, back, ok, exchanged(s, -1), true)
		turn, ok := impl.CircleTurn(back)
		wantText(t, "CircleTurn of "+call, turn, ok, s, true)
	}
}

func TestPromise45BackOfCases(t *testing.T) {
	for _, c := range circleCases() {
		back, ok := impl.CircleBack(c.turn)
		wantText(t, fmt.Sprintf("CircleBack(%q)", c.turn), back, ok, c.s, true)
	}
}

func TestPromise46Rotate(t *testing.T) {
	for _, s := range someCircles() {
		turn, _ := impl.CircleTurn(s)
		shape, _ := impl.CircleShape(s)
		for n := range len(s) + 1 {
			call := fmt.Sprintf("CircleRotate(%q, %d)", s, n)
			got, ok := impl.CircleRotate(s, n)
			wantText(t, call, got, ok, rotated(s, n), true)
			rotatedTurn, _ := impl.CircleRotate(turn, n)
			next, ok := impl.CircleTurn(got)
			wantText(t, "CircleTurn of "+call, next, ok, rotatedTurn, true)
			sizes, ok := impl.CircleShape(got)
			wantList(t, "CircleShape of "+call, sizes, ok, shape, true)
		}
	}
}

func TestPromise46RotateOfCases(t *testing.T) {
	cases := []struct {
		s    string
		n    int
		want string
	}{
		{"0", 0, "0"},
		{"0", 1, "0"},
		{"001", 0, "001"},
		{"001", 1, "010"},
		{"001", 2, "100"},
		{"001", 3, "001"},
		{"1010000", 0, "1010000"},
		{"1010000", 1, "0100001"},
		{"1010000", 3, "0000101"},
		{"1010000", 6, "0101000"},
		{"1010000", 7, "1010000"},
		{"1101" + zeros(56), 0, "1101" + zeros(56)},
		{"1101" + zeros(56), 2, "01" + zeros(56) + "11"},
		{"1101" + zeros(56), 59, "01101" + zeros(55)},
		{"1101" + zeros(56), 60, "1101" + zeros(56)},
	}
	for _, c := range cases {
		got, ok := impl.CircleRotate(c.s, c.n)
		wantText(t, fmt.Sprintf("CircleRotate(%q, %d)", c.s, c.n), got, ok, c.want, true)
	}
}

func TestPromise47Shape(t *testing.T) {
	for _, s := range someCircles() {
		call := fmt.Sprintf("CircleShape(%q)", s)
		sizes, ok := impl.CircleShape(s)
		wantList(t, call, sizes, ok, shapeRound(s), true)
		if sum(sizes) != impl.RowBalls(s) || !slices.IsSorted(turned(sizes)) || slices.Contains(sizes, 0) {
			t.Errorf("%s returned %v", call, sizes)
		}
		turn, _ := impl.CircleTurn(s)
		next, ok := impl.CircleShape(turn)
		wantList(t, fmt.Sprintf("CircleShape(%q), a turn behind %q,", turn, s), next, ok, sizes, true)
	}
}

func TestPromise47ShapeOfRows(t *testing.T) {
	// With enough empty boxes behind, no pair goes round the end, and the shape is that of the row.
	for _, s := range append(shortRows(10), mixedRow(30, 1), mixedRow(30, 2), mixedRow(30, 3)) {
		want, _ := impl.ShapeOf(s)
		circle := s + zeros(len(s)) + "0"
		if len(circle) > mostRound {
			circle = circle[:mostRound]
		}
		sizes, ok := impl.CircleShape(circle)
		wantList(t, fmt.Sprintf("CircleShape(%q)", circle), sizes, ok, want, true)
	}
}

func TestPromise47ShapeOfCases(t *testing.T) {
	cases := []struct {
		s    string
		want []int
	}{
		{"0", nil},
		{zeros(60), nil},
		{"100", []int{1}},
		{"001", []int{1}},
		{"00011", []int{2}},
		{"10001", []int{2}},
		{"10100", []int{1, 1}},
		{"01001", []int{1, 1}},
		{"0100101", []int{1, 1, 1}},
		{"0001101", []int{2, 1}},
		{"0100011", []int{2, 1}},
		{"1010001", []int{2, 1}},
		{"1100001", []int{3}},
		{"000100111", []int{3, 1}},
		{"11000000111", []int{5}},
		{"00001100111", []int{3, 2}},
		{"10001100011", []int{3, 2}},
		{ones(29) + zeros(30), []int{29}},
		{zeros(31) + ones(29), []int{29}},
		{ones(14) + zeros(31) + ones(15), []int{29}},
		{strings.Repeat("10", 29) + "0", many(29, 1)},
		{strings.Repeat("01", 29) + "00", many(29, 1)},
		{"1" + strings.Repeat("00101", 11) + "0000", many(23, 1)},
	}
	for _, c := range cases {
		sizes, ok := impl.CircleShape(c.s)
		wantList(t, fmt.Sprintf("CircleShape(%q)", c.s), sizes, ok, c.want, true)
	}
}

func TestPromise47ShapesAreNew(t *testing.T) {
	sizes, _ := impl.CircleShape("0001101")
	spoil(sizes)
	sizes, ok := impl.CircleShape("0001101")
	wantList(t, "CircleShape, again,", sizes, ok, []int{2, 1}, true)
}

func TestPromise48Period(t *testing.T) {
	all := append(shortCircles(9), zeros(60), "1"+zeros(59), zeros(59)+"1", ones(29)+zeros(30), zeros(31)+ones(29))
	for seed := range 6 {
		for _, n := range []int{12, 15, 20, 27, 34, 41, 59, mostRound} {
			for _, balls := range []int{2, 3, (n - 1) / 2} {
				all = append(all, mixedCircle(n, balls, seed))
			}
		}
	}
	for _, s := range all {
		call := fmt.Sprintf("CirclePeriod(%q)", s)
		period, ok := impl.CirclePeriod(s)
		wantNumber(t, call, period, ok, periodOf(s, 5000), true)
		if period == 1 != !strings.Contains(s, "1") {
			t.Errorf("%s returned 1 with a ball, or another number without: %d", call, period)
		}
		turn, _ := impl.CircleTurn(s)
		next, ok := impl.CirclePeriod(turn)
		wantNumber(t, fmt.Sprintf("CirclePeriod(%q), a turn behind %q,", turn, s), next, ok, period, true)
	}
}

func TestPromise49Row(t *testing.T) {
	all := shortRows(10)
	for n := 11; n <= 19; n++ {
		all = append(all, ones(n), "1"+zeros(n-2)+"1", zeros(n-1)+"1", zeros(n/2)+ones(n-n/2), zeros(n%2)+strings.Repeat("01", n/2))
		for seed := range 20 {
			all = append(all, mixedRow(n, seed))
		}
	}
	for _, s := range all {
		s = tidied(s)
		step, _ := impl.StepGreat(s)
		for _, room := range []int{2*len(s) + 1, mostRound - len(s)} {
			circle := s + zeros(room)
			got, ok := impl.CircleTurn(circle)
			wantText(t, fmt.Sprintf("CircleTurn(%q)", circle), got, ok, step+zeros(len(circle)-len(step)), true)
		}
	}
}

func TestPromise49RowOfCases(t *testing.T) {
	cases := []struct {
		s, turn string
	}{
		{"0", "0"},
		{"1" + "000", "0100"},
		{"11001" + zeros(11), "001101" + zeros(10)},
		{ones(19) + zeros(39), zeros(19) + ones(19) + zeros(20)},
		{zeros(18) + "1" + zeros(39), zeros(19) + "1" + zeros(38)},
		{strings.Repeat("10", 9) + "1" + zeros(39), strings.Repeat("01", 10) + zeros(38)},
	}
	for _, c := range cases {
		got, ok := impl.CircleTurn(c.s)
		wantText(t, fmt.Sprintf("CircleTurn(%q)", c.s), got, ok, c.turn, true)
	}
}

func TestPromise48PeriodOfCases(t *testing.T) {
	cases := []struct {
		s    string
		want int
	}{
		{"0", 1},
		{"00", 1},
		{zeros(59), 1},
		{zeros(60), 1},
		{"100", 3},
		{"010", 3},
		{"001", 3},
		{"1" + zeros(59), 60},
		{zeros(59) + "1", 60},
		// A run of 7 boxes goes on by 7 of them each turn.
		{ones(7) + zeros(53), 60},
		{ones(2) + zeros(58), 30},
		{ones(20) + zeros(40), 3},
		{ones(29) + zeros(31), 60},
		{ones(29) + zeros(30), 59},
		// All balls are next to empty boxes and move on by one box.
		{"100100100", 3},
		{"10100", 5},
		{strings.Repeat("10000", 12), 5},
	}
	for _, c := range cases {
		period, ok := impl.CirclePeriod(c.s)
		wantNumber(t, fmt.Sprintf("CirclePeriod(%q)", c.s), period, ok, c.want, true)
	}
}

func TestPromise48PeriodLimits(t *testing.T) {
	// No circle is known with a period nearer to 5000 from below than 4998, or from above than 5005.
	cases := []struct {
		s      string
		period int
	}{
		{"0000000011101111100000001101111", 4991},
		{"1001110000100001111111110000001110000", 4995},
		{"00110000000100001000000110100000000000011000000000011100", 4998},
		{"0001000000110111110010010001000000000000000000001000011", 5005},
		{"100000011100001000000000000000000111000111100011", 5016},
		{"10000011111000000001001", 5083},
	}
	for _, c := range cases {
		if got := periodOf(c.s, 10000); got != c.period {
			t.Fatalf("%q has the period %d", c.s, got)
		}
		want := c.period
		if want > 5000 {
			want = 0
		}
		for turns := range 3 {
			period, ok := impl.CirclePeriod(c.s)
			wantNumber(t, fmt.Sprintf("CirclePeriod(%q), %d turns on,", c.s, turns), period, ok, want, true)
			c.s = exchanged(c.s, 1)
		}
	}
}
