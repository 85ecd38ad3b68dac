package tests

import (
	"fmt"
	"math"
	"slices"
	"strings"
	"testing"

	"loop.example/boxball/impl"
)

func TestShapeOfNoRowFails(t *testing.T) {
	for _, s := range noRows() {
		list, ok := impl.ShapeOf(s)
		wantList(t, fmt.Sprintf("ShapeOf(%q)", s), list, ok, nil, false)
		list, ok = impl.ShapeRounds(s)
		wantList(t, fmt.Sprintf("ShapeRounds(%q)", s), list, ok, nil, false)
		list, ok = impl.ShapeRuns(s)
		wantList(t, fmt.Sprintf("ShapeRuns(%q)", s), list, ok, nil, false)
		if impl.ShapeApart(s) {
			t.Errorf("ShapeApart(%q) holds", s)
		}
		n, ok := impl.ShapeTime(s)
		wantNumber(t, fmt.Sprintf("ShapeTime(%q)", s), n, ok, 0, false)
	}
}

func TestPromise19Shape(t *testing.T) {
	for _, s := range someRows() {
		call := fmt.Sprintf("ShapeOf(%q)", s)
		sizes, ok := impl.ShapeOf(s)
		wantList(t, call, sizes, ok, shapeIn(s), true)
		if !slices.IsSorted(turned(sizes)) || sum(sizes) != strings.Count(s, "1") {
			t.Errorf("%s returned %v", call, sizes)
		}
		for _, room := range []int{1, 2, 200} {
			after, ok := impl.StepOf(s, room)
			if !ok {
				continue
			}
			got, ok := impl.ShapeOf(after)
			wantList(t, fmt.Sprintf("ShapeOf(%q), a step with the room %d behind %q,", after, room, s), got, ok, sizes, true)
		}
	}
}

func TestPromise19ShapeOfCases(t *testing.T) {
	cases := []struct {
		s    string
		want []int
	}{
		{"", nil},
		{"0", nil},
		{zeros(most), nil},
		{"1", []int{1}},
		{"0100", []int{1}},
		{"11", []int{2}},
		{"101", []int{1, 1}},
		{"1101", []int{2, 1}},
		{"1101000", []int{2, 1}},
		{"1011", []int{2, 1}},
		{"110011", []int{2, 2}},
		{"11011", []int{3, 1}},
		{"110111", []int{4, 1}},
		{"1110011", []int{3, 2}},
		{"111011", []int{4, 1}},
		{"1101001", []int{2, 1, 1}},
		{"1110100110", []int{3, 2, 1}},
		{"11100100010", []int{3, 1, 1}},
		{"1111000011101", []int{4, 3, 1}},
		{ones(most), []int{most}},
		{zeros(most-1) + "1", []int{1}},
		{"11" + zeros(most-3) + "1", []int{2, 1}},
		{strings.Repeat("10", most/2), many(most/2, 1)},
		{strings.Repeat("01", most/2), many(most/2, 1)},
		{ones(most-2) + "01", []int{most - 2, 1}},
		{"10" + ones(most-2), []int{most - 2, 1}},
	}
	for _, c := range cases {
		sizes, ok := impl.ShapeOf(c.s)
		wantList(t, fmt.Sprintf("ShapeOf(%q)", c.s), sizes, ok, c.want, true)
	}
}

func TestPromise20Energy(t *testing.T) {
	for _, s := range someRows() {
		sizes, ok := impl.ShapeOf(s)
		if !ok {
			t.Errorf("ShapeOf(%q) failed", s)
		}
		for _, room := range someRooms {
			want, told := impl.StepTaken(s, room)
			n, ok := impl.ShapeEnergy(sizes, room)
			wantNumber(t, fmt.Sprintf("ShapeEnergy(%v, %d), the shape of %q,", sizes, room, s), n, ok, want, told)
		}
	}
}

func TestPromise21Rounds(t *testing.T) {
	for _, s := range someRows() {
		call := fmt.Sprintf("ShapeRounds(%q)", s)
		rounds, ok := impl.ShapeRounds(s)
		wantList(t, call, rounds, ok, roundsIn(s), true)
		if !slices.IsSorted(turned(rounds)) {
			t.Errorf("%s returned %v", call, rounds)
		}
		first, _ := impl.StepTaken(s, 1)
		if len(rounds) == 0 && first != 0 || len(rounds) > 0 && rounds[0] != first {
			t.Errorf("%s returned %v; the energy for the room 1 is %d", call, rounds, first)
		}
	}
}

func TestPromise21RoundsOfCases(t *testing.T) {
	cases := []struct {
		s    string
		want []int
	}{
		{"", nil},
		{"000", nil},
		{"1", []int{1}},
		{"10", []int{1}},
		{"111", []int{1, 1, 1}},
		{"1101", []int{2, 1}},
		{"11011", []int{2, 1, 1}},
		{"110011", []int{2, 2}},
		{"1110100110", []int{3, 2, 1}},
		{"11100100010", []int{3, 1, 1}},
		{"1111000011101", []int{3, 2, 2, 1}},
		{ones(most), many(most, 1)},
		{zeros(most-1) + "1", []int{1}},
		{strings.Repeat("10", most/2), []int{most / 2}},
	}
	for _, c := range cases {
		rounds, ok := impl.ShapeRounds(c.s)
		wantList(t, fmt.Sprintf("ShapeRounds(%q)", c.s), rounds, ok, c.want, true)
	}
}

func TestPromise22Energy(t *testing.T) {
	lists := append(shortLists(4, 4), []int{1}, []int{200}, []int{1, 200}, []int{200, 1, 100, 99, 200}, many(99, 200), many(100, 1), many(100, 200))
	for _, list := range lists {
		for _, room := range append([]int{99, 100, 101}, someRooms...) {
			want := 0
			for _, size := range list {
				want += min(size, room)
			}
			given := slices.Clone(list)
			call := fmt.Sprintf("ShapeEnergy(%v, %d)", list, room)
			n, ok := impl.ShapeEnergy(given, room)
			wantNumber(t, call, n, ok, want, true)
			if n > room*len(list) || room == 200 && n != sum(list) {
				t.Errorf("%s returned %d", call, n)
			}
			wantList(t, call+", in its argument,", given, ok, list, true)
		}
	}
}

func TestPromise22EnergyOfCases(t *testing.T) {
	cases := []struct {
		list []int
		room int
		want int
		ok   bool
	}{
		{nil, 1, 0, true},
		{[]int{}, impl.RoomMax, 0, true},
		{[]int{1}, 1, 1, true},
		{[]int{1}, impl.RoomMax, 1, true},
		{[]int{200}, 1, 1, true},
		{[]int{200}, 199, 199, true},
		{[]int{200}, impl.RoomMax, 200, true},
		{[]int{1, 5, 3, 3}, 3, 10, true},
		{many(100, 200), impl.RoomMax, 20000, true},
		{many(100, 200), 1, 100, true},
		{many(100, 1), impl.RoomMax, 100, true},
		{many(101, 1), 1, 0, false},
		{many(101, 200), impl.RoomMax, 0, false},
		{many(102, 1), 1, 0, false},
		{many(1000, 1), 1, 0, false},
		{many(101, 0), 1, 0, false},
	}
	for _, c := range cases {
		n, ok := impl.ShapeEnergy(c.list, c.room)
		wantNumber(t, fmt.Sprintf("ShapeEnergy(%v, %d)", c.list, c.room), n, ok, c.want, c.ok)
	}
}

// wantNoSize checks that a number in any place of a list makes a function of a list fail.
func wantNoSize(t *testing.T, bad int, fails func(list []int) bool) {
	t.Helper()
	for _, list := range [][]int{{bad}, {bad, 1}, {1, bad}, {2, bad, 3}, {bad, bad}, append(many(19, 1), bad)} {
		if !fails(list) {
			t.Errorf("the list %v did not make it fail", list)
		}
	}
}

func TestPromise22EnergyFails(t *testing.T) {
	for _, bad := range []int{0, -1, -200, math.MinInt, 201, 202, math.MaxInt} {
		for _, room := range []int{1, 2, impl.RoomMax, 0, impl.RoomMax + 1} {
			wantNoSize(t, bad, func(list []int) bool {
				n, ok := impl.ShapeEnergy(list, room)
				return n == 0 && !ok
			})
			n, ok := impl.ShapeEnergy(append(many(99, 1), bad), room)
			wantNumber(t, fmt.Sprintf("ShapeEnergy of 99 numbers and %d", bad), n, ok, 0, false)
		}
	}
	for _, list := range [][]int{nil, {1}, {200}, {3, 2, 1}, many(100, 1), many(101, 1)} {
		for _, room := range badRooms {
			n, ok := impl.ShapeEnergy(list, room)
			wantNumber(t, fmt.Sprintf("ShapeEnergy(%v, %d)", list, room), n, ok, 0, false)
		}
	}
}

func TestPromise23Runs(t *testing.T) {
	for _, s := range someRows() {
		call := fmt.Sprintf("ShapeRuns(%q)", s)
		runs, ok := impl.ShapeRuns(s)
		wantList(t, call, runs, ok, lengthsOf(s, "0"), true)
		taken, _ := impl.StepTaken(s, 1)
		if slices.Contains(runs, 0) || sum(runs) != strings.Count(s, "1") || len(runs) != taken {
			t.Errorf("%s returned %v; the energy for the room 1 is %d", call, runs, taken)
		}
	}
}

func TestPromise23RunsOfCases(t *testing.T) {
	cases := []struct {
		s    string
		want []int
	}{
		{"", nil},
		{"0", nil},
		{zeros(most), nil},
		{"1", []int{1}},
		{"0110", []int{2}},
		{"1101", []int{2, 1}},
		{"0010110111000", []int{1, 2, 3}},
		{"1110001", []int{3, 1}},
		{"11011", []int{2, 2}},
		{ones(most), []int{most}},
		{zeros(most-1) + "1", []int{1}},
		{"1" + zeros(most-2) + "1", []int{1, 1}},
		{ones(most-3) + "011", []int{most - 3, 2}},
	}
	for _, c := range cases {
		runs, ok := impl.ShapeRuns(c.s)
		wantList(t, fmt.Sprintf("ShapeRuns(%q)", c.s), runs, ok, c.want, true)
	}
}

func TestPromise24Apart(t *testing.T) {
	for _, s := range append(someRows(), shortRows(13)...) {
		apart := impl.ShapeApart(s)
		if apart != apartIn(s) {
			t.Errorf("ShapeApart(%q) returned %v", s, apart)
		}
		if apart {
			wantApart(t, s)
		}
	}
}

// wantApart checks what must hold for a row that is apart.
func wantApart(t *testing.T, s string) {
	t.Helper()
	runs, ok1 := impl.ShapeRuns(s)
	sizes, ok2 := impl.ShapeOf(s)
	if !ok1 || !ok2 || !slices.Equal(turned(runs), sizes) {
		t.Errorf("%q is apart, with the runs %v and the shape %v", s, runs, sizes)
	}
	after, ok := impl.StepOf(s, impl.RoomMax)
	if !ok {
		return
	}
	if !impl.ShapeApart(after) {
		t.Errorf("%q is apart, and not %q, a step behind it", s, after)
	}
	got, ok := impl.ShapeRuns(after)
	wantList(t, fmt.Sprintf("ShapeRuns(%q), a step behind %q,", after, s), got, ok, runs, true)
}

func TestPromise24ApartOfCases(t *testing.T) {
	for s, want := range map[string]bool{
		"":                  true,
		"0":                 true,
		zeros(most):         true,
		"1":                 true,
		"000100":            true,
		"111":               true,
		ones(most):          true,
		zeros(most-1) + "1": true,
		// Runs that rise.
		"1011":           true,
		"10011":          true,
		"1011001110":     true,
		"0010110011100":  true,
		"110111":         false,
		"1100111":        true,
		"11000111":       true,
		"101101110":      false,
		"1011001110001":  false,
		"10110011100011": false,
		// Runs of the same size.
		"101":           true,
		"1010101":       true,
		"11011":         false,
		"110011":        true,
		"1100011":       true,
		"111000111":     true,
		"11100111":      false,
		"110011011":     false,
		"110110011":     false,
		"1100110011000": true,
		// A run behind a greater one.
		"1101":                                false,
		"11001":                               false,
		"1100000000001":                       false,
		"11100011":                            false,
		"1110000000110":                       false,
		"1011001":                             false,
		"10110000000001":                      false,
		"11" + zeros(most-3) + "1":            false,
		"1" + zeros(most-3) + "11":            true,
		"1" + zeros(most-2) + "1":             true,
		ones(40) + zeros(40) + ones(40):       true,
		ones(40) + zeros(39) + ones(40):       false,
		ones(40) + zeros(39) + ones(41):       false,
		ones(39) + zeros(39) + ones(42):       true,
		ones(41) + zeros(41) + ones(38):       false,
		strings.Repeat("10", most/2):          true,
		strings.Repeat("1100", most/4):        true,
		strings.Repeat("110", most/3):         false,
		strings.Repeat("10", most/2-2) + "11": true,
	} {
		if got := impl.ShapeApart(s); got != want {
			t.Errorf("ShapeApart(%q) returned %v", s, got)
		}
	}
}

// rowOfSizes returns the text of the row that is apart with some sizes, however long.
func rowOfSizes(list []int) string {
	list = slices.Sorted(slices.Values(list))
	s := ""
	for _, size := range list {
		s += ones(size) + zeros(size)
	}
	return tidied(s)
}

func TestPromise25Row(t *testing.T) {
	lists := append(shortLists(5, 4), many(20, 1), many(20, 3), many(20, 20), []int{20, 20, 20}, []int{20, 1, 19, 2, 18}, []int{1, 20}, []int{20, 1, 20})
	for _, list := range lists {
		call := fmt.Sprintf("ShapeRow(%v)", list)
		want := rowOfSizes(list)
		given := slices.Clone(list)
		s, ok := impl.ShapeRow(given)
		if len(want) > most {
			wantText(t, call, s, ok, "", false)
			continue
		}
		wantText(t, call, s, ok, want, true)
		wantList(t, call+", in its argument,", given, ok, list, true)
		sizes, ok := impl.ShapeOf(s)
		if !ok || len(sizes) != len(list) || sum(sizes) != sum(list) || !impl.ShapeApart(s) {
			t.Errorf("%s returned %q, with the shape %v, apart: %v", call, s, sizes, impl.ShapeApart(s))
		}
	}
}

func TestPromise25RowOfCases(t *testing.T) {
	cases := []struct {
		list []int
		want string
		ok   bool
	}{
		{nil, "", true},
		{[]int{}, "", true},
		{[]int{1}, "1", true},
		{[]int{20}, ones(20), true},
		{[]int{2, 1}, "1011", true},
		{[]int{1, 2}, "1011", true},
		{[]int{2, 2}, "110011", true},
		{[]int{3, 1, 2, 1}, "10101100111", true},
		{[]int{20, 1}, "10" + ones(20), true},
		{many(20, 1), strings.Repeat("10", 19) + "1", true},
		{many(21, 1), "", false},
		{many(22, 1), "", false},
		{many(1000, 1), "", false},
		{many(21, 20), "", false},
		// Exactly as long as a row may be, and longer.
		{[]int{20, 20, 10, 20}, ones(10) + zeros(10) + strings.Repeat(ones(20)+zeros(20), 2) + ones(20), true},
		{[]int{20, 20, 11, 20}, "", false},
		{[]int{20, 20, 20, 20}, "", false},
		{append(many(19, 3), 6), strings.Repeat("111000", 19) + ones(6), true},
		{append([]int{6}, many(19, 3)...), strings.Repeat("111000", 19) + ones(6), true},
		{append(many(19, 3), 7), "", false},
		{append(many(19, 3), 5), strings.Repeat("111000", 19) + ones(5), true},
		{many(20, 4), "", false},
		{many(20, 20), "", false},
	}
	for _, c := range cases {
		s, ok := impl.ShapeRow(c.list)
		wantText(t, fmt.Sprintf("ShapeRow(%v)", c.list), s, ok, c.want, c.ok)
	}
}

func TestPromise25RowFails(t *testing.T) {
	for _, bad := range []int{0, -1, -20, math.MinInt, 21, 22, math.MaxInt} {
		wantNoSize(t, bad, func(list []int) bool {
			s, ok := impl.ShapeRow(list)
			return s == "" && !ok
		})
	}
}

func TestPromise26Time(t *testing.T) {
	for _, s := range someRows() {
		call := fmt.Sprintf("ShapeTime(%q)", s)
		want, told := timeOf(s)
		n, ok := impl.ShapeTime(s)
		wantNumber(t, call, n, ok, want, told)
		if !ok {
			continue
		}
		after, ok1 := impl.StepMany(s, impl.RoomMax, n)
		runs, ok2 := impl.ShapeRuns(after)
		sizes, ok3 := impl.ShapeOf(s)
		if !ok1 || !ok2 || !ok3 || !impl.ShapeApart(after) || !slices.Equal(turned(runs), sizes) {
			t.Errorf("%s returned %d; the row is %q then, and the shape %v", call, n, after, sizes)
		}
	}
}

func TestPromise26TimeOfCases(t *testing.T) {
	half := most / 2
	cases := []struct {
		s    string
		want int
		ok   bool
	}{
		// Apart at once.
		{"", 0, true},
		{"0000", 0, true},
		{zeros(most), 0, true},
		{"1", 0, true},
		{"1011000", 0, true},
		{"110011", 0, true},
		{zeros(most-1) + "1", 0, true},
		{"1" + zeros(most-3) + "11", 0, true},
		{ones(most), 0, true},
		// Apart behind some steps.
		{"1101", 1, true},
		{"1101000", 1, true},
		{"11001", 2, true},
		{"11011", 1, true},
		{"110111", 1, true},
		{"11100011", 2, true},
		// Apart behind many steps, in the last boxes that there are.
		{"11" + zeros(57) + "1", 57, true},
		{"11" + zeros(58) + "1", 58, true},
		{"11" + zeros(59) + "1", 0, false},
		{"11" + zeros(58) + "1" + zeros(59), 58, true},
		{"0" + "11" + zeros(58) + "1", 0, false},
		{ones(half-1) + "01", 1, true},
		// Too long before it is apart.
		{"11" + zeros(most-3) + "1", 0, false},
		{zeros(most-4) + "1101", 0, false},
		{zeros(most-6) + "110100", 1, true},
		{zeros(most-5) + "11010", 0, false},
		{ones(half) + "01", 0, false},
		{ones(most-2) + "01", 0, false},
	}
	for _, c := range cases {
		n, ok := impl.ShapeTime(c.s)
		wantNumber(t, fmt.Sprintf("ShapeTime(%q)", c.s), n, ok, c.want, c.ok)
	}
}

func TestPromise19to23ListsAreNew(t *testing.T) {
	for _, list := range []func(string) ([]int, bool){impl.ShapeOf, impl.ShapeRounds, impl.ShapeRuns} {
		first, _ := list("1011001101")
		want := slices.Clone(first)
		spoil(first)
		again, ok := list("1011001101")
		wantList(t, "the same call, again,", again, ok, want, true)
	}
}
