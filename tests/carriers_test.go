package tests

import (
	"fmt"
	"math"
	"strings"
	"testing"

	"loop.example/boxball/impl"
)

// badRooms are rooms that no carrier has.
var badRooms = []int{0, -1, -2, -impl.RoomMax, math.MinInt, impl.RoomMax + 1, impl.RoomMax + 2, math.MaxInt}

func TestRoomMax(t *testing.T) {
	if impl.RoomMax != 200 {
		t.Errorf("RoomMax is %d", impl.RoomMax)
	}
}

// wantNoStep checks that each function of the carriers fails for a text and a room, in its first check.
func wantNoStep(t *testing.T, s string, room int) {
	t.Helper()
	text, ok := impl.StepOf(s, room)
	wantText(t, fmt.Sprintf("StepOf(%q, %d)", s, room), text, ok, "", false)
	list, ok := impl.StepLoads(s, room)
	wantList(t, fmt.Sprintf("StepLoads(%q, %d)", s, room), list, ok, nil, false)
	n, ok := impl.StepTaken(s, room)
	wantNumber(t, fmt.Sprintf("StepTaken(%q, %d)", s, room), n, ok, 0, false)
	text, ok = impl.StepBack(s, room)
	wantText(t, fmt.Sprintf("StepBack(%q, %d)", s, room), text, ok, "", false)
	for _, n := range []int{0, 1, 2, 100} {
		text, ok = impl.StepMany(s, room, n)
		wantText(t, fmt.Sprintf("StepMany(%q, %d, %d)", s, room, n), text, ok, "", false)
	}
}

func TestStepOfNoRowFails(t *testing.T) {
	for _, s := range noRows() {
		for _, room := range []int{0, 1, 2, 60, impl.RoomMax, impl.RoomMax + 1} {
			wantNoStep(t, s, room)
		}
		text, ok := impl.StepGreat(s)
		wantText(t, fmt.Sprintf("StepGreat(%q)", s), text, ok, "", false)
	}
}

func TestStepOfNoRoomFails(t *testing.T) {
	for _, s := range append(shortRows(5), longRows()...) {
		for _, room := range badRooms {
			wantNoStep(t, s, room)
		}
	}
}

func TestPromise10Step(t *testing.T) {
	for _, s := range someRows() {
		for _, room := range someRooms {
			call := fmt.Sprintf("StepOf(%q, %d)", s, room)
			after, _ := stepped(s, room)
			got, ok := impl.StepOf(s, room)
			if len(after) > most {
				wantText(t, call, got, ok, "", false)
				continue
			}
			wantText(t, call, got, ok, after, true)
			if impl.RowBalls(got) != strings.Count(s, "1") {
				t.Errorf("%s returned %q: other balls", call, got)
			}
			back, ok := impl.StepBack(got, room)
			wantText(t, "StepBack of "+call, back, ok, tidied(s), true)
		}
	}
}

func TestPromise10StepOfCases(t *testing.T) {
	cases := []struct {
		s    string
		room int
		want string
	}{
		{"", 1, ""},
		{"", impl.RoomMax, ""},
		{"000", 1, ""},
		{"000", impl.RoomMax, ""},
		{"1", 1, "01"},
		{"1", impl.RoomMax, "01"},
		{"100", 1, "01"},
		{"0100", 2, "001"},
		// Behind the last sign the carrier still has balls.
		{"11001", 200, "001101"},
		{"111", 200, "000111"},
		{"111", 3, "000111"},
		{"11011", 200, "00100111"},
		{"01011", 2, "0010011"},
		// The carrier is full at a ball, and goes on with balls and empty boxes behind it.
		{"111", 1, "0111"},
		{"111", 2, "00111"},
		{"1101", 1, "01101"},
		{"1111", 2, "001111"},
		{"11101", 2, "0011011"},
		{"110011", 1, "0110011"},
		{"1110011", 2, "001110011"},
		{"10110", 1, "01011"},
	}
	for _, c := range cases {
		got, ok := impl.StepOf(c.s, c.room)
		wantText(t, fmt.Sprintf("StepOf(%q, %d)", c.s, c.room), got, ok, c.want, true)
	}
}

// stepCase is a row, a room, and what the call with them returns.
type stepCase struct {
	s    string
	room int
	want string
	ok   bool
}

// limitCases returns steps whose results are about as long as a row may be.
func limitCases() []stepCase {
	half := most / 2
	return []stepCase{
		{ones(half), impl.RoomMax, zeros(half) + ones(half), true},
		{ones(half), half, zeros(half) + ones(half), true},
		{ones(half), half + 1, zeros(half) + ones(half), true},
		{ones(half) + zeros(half), impl.RoomMax, zeros(half) + ones(half), true},
		{ones(half + 1), impl.RoomMax, "", false},
		{ones(half+1) + zeros(half-1), impl.RoomMax, "", false},
		{ones(half + 1), half, "", false},
		{ones(half + 1), half - 1, zeros(half-1) + ones(half+1), true},
		{ones(most - 1), 1, "0" + ones(most-1), true},
		{ones(most-1) + "0", 1, "0" + ones(most-1), true},
		{ones(most - 1), 2, "", false},
		{ones(most - 2), 2, "00" + ones(most-2), true},
		{ones(most), 1, "", false},
		{ones(most), impl.RoomMax, "", false},
		{zeros(most-2) + "1", 1, zeros(most-1) + "1", true},
		{zeros(most-2) + "10", impl.RoomMax, zeros(most-1) + "1", true},
		{zeros(most-1) + "1", 1, "", false},
		{zeros(most-1) + "1", impl.RoomMax, "", false},
		{zeros(most-4) + "11", impl.RoomMax, zeros(most-2) + "11", true},
		{zeros(most-3) + "11", impl.RoomMax, "", false},
		{zeros(most-3) + "11", 1, zeros(most-2) + "11", true},
		{"1" + zeros(most-1), 1, "01", true},
		{zeros(most), impl.RoomMax, "", true},
		{strings.Repeat("01", half), 1, "", false},
		{strings.Repeat("10", half), 1, strings.Repeat("01", half), true},
		{strings.Repeat("10", half), impl.RoomMax, strings.Repeat("01", half), true},
	}
}

func TestPromise10StepOfLimits(t *testing.T) {
	for _, c := range limitCases() {
		got, ok := impl.StepOf(c.s, c.room)
		wantText(t, fmt.Sprintf("StepOf(%q, %d)", c.s, c.room), got, ok, c.want, c.ok)
		got, ok = impl.StepMany(c.s, c.room, 1)
		wantText(t, fmt.Sprintf("StepMany(%q, %d, 1)", c.s, c.room), got, ok, c.want, c.ok)
		if c.room == impl.RoomMax {
			got, ok = impl.StepGreat(c.s)
			wantText(t, fmt.Sprintf("StepGreat(%q)", c.s), got, ok, c.want, c.ok)
		}
	}
}

func TestPromise11StepsExchange(t *testing.T) {
	for _, s := range someRows() {
		for _, room := range someRooms {
			first, ok := impl.StepOf(s, room)
			if !ok {
				continue
			}
			behind, ok := impl.StepOf(first, 2)
			if !ok {
				continue
			}
			ahead, ok := impl.StepOf(s, 2)
			if !ok {
				t.Errorf("StepOf(%q, 2) failed, though it is no longer than %q", s, behind)
				continue
			}
			ahead, ok = impl.StepOf(ahead, room)
			wantText(t, fmt.Sprintf("StepOf(StepOf(%q, 2), %d)", s, room), ahead, ok, behind, true)
		}
	}
}

func TestPromise12StepOfShifted(t *testing.T) {
	for _, s := range someRows() {
		shifted, told := impl.RowShift(s, 3)
		if !told {
			continue
		}
		for _, room := range someRooms {
			after, ok := impl.StepOf(s, room)
			if !ok {
				continue
			}
			want, told := impl.RowShift(after, 3)
			got, ok := impl.StepOf(shifted, room)
			wantText(t, fmt.Sprintf("StepOf(%q, %d)", shifted, room), got, ok, want, told)
		}
	}
}

func TestPromise13EnergiesStay(t *testing.T) {
	for _, s := range someRows() {
		for _, room := range someRooms {
			after, ok := impl.StepOf(s, room)
			if !ok {
				continue
			}
			for _, other := range []int{1, 2, 3, 4, 5, 200} {
				want, ok1 := impl.StepTaken(s, other)
				got, ok2 := impl.StepTaken(after, other)
				if !ok1 || !ok2 || got != want {
					t.Errorf("StepTaken(%q, %d) returned %d, %v, and %d, %v for %q, the row behind a step with the room %d",
						s, other, want, ok1, got, ok2, after, room)
				}
			}
		}
	}
}

func TestPromise14Loads(t *testing.T) {
	for _, s := range someRows() {
		for _, room := range someRooms {
			call := fmt.Sprintf("StepLoads(%q, %d)", s, room)
			loads, ok := impl.StepLoads(s, room)
			if strings.HasSuffix(s, "0") {
				wantList(t, call, loads, ok, nil, false)
				continue
			}
			_, want := stepped(s, room)
			wantList(t, call, loads, ok, want, true)
			if len(loads) != len(s)+1 || loads[0] != 0 {
				t.Errorf("%s returned %v", call, loads)
				continue
			}
			for i, load := range loads {
				if load < 0 || load > room || i > 0 && (load-loads[i-1] < -1 || load-loads[i-1] > 1) {
					t.Errorf("%s returned %v: wrong at %d", call, loads, i)
				}
			}
		}
	}
}

func TestPromise14LoadsOfCases(t *testing.T) {
	rising := make([]int, most+1)
	flat := make([]int, most+1)
	for i := range rising {
		rising[i], flat[i] = i, min(i, 1)
	}
	cases := []struct {
		s    string
		room int
		want []int
		ok   bool
	}{
		{"", 1, []int{0}, true},
		{"", impl.RoomMax, []int{0}, true},
		{"1", 1, []int{0, 1}, true},
		{"1", impl.RoomMax, []int{0, 1}, true},
		{"0011", 1, []int{0, 0, 0, 1, 1}, true},
		{"1101", 1, []int{0, 1, 1, 0, 1}, true},
		{"11101", 2, []int{0, 1, 2, 2, 1, 2}, true},
		{"1100001", 200, []int{0, 1, 2, 1, 0, 0, 0, 1}, true},
		{ones(most), impl.RoomMax, rising, true},
		{ones(most), most, rising, true},
		{ones(most), 1, flat, true},
		{"0", 1, nil, false},
		{"10", 1, nil, false},
		{"1100", impl.RoomMax, nil, false},
		{zeros(most), 2, nil, false},
		{ones(most-1) + "0", 2, nil, false},
	}
	for _, c := range cases {
		loads, ok := impl.StepLoads(c.s, c.room)
		wantList(t, fmt.Sprintf("StepLoads(%q, %d)", c.s, c.room), loads, ok, c.want, c.ok)
	}
}

func TestPromise14LoadsAreNew(t *testing.T) {
	loads, _ := impl.StepLoads("1101", 1)
	spoil(loads)
	loads, ok := impl.StepLoads("1101", 1)
	wantList(t, "StepLoads, again,", loads, ok, []int{0, 1, 1, 0, 1}, true)
}

func TestPromise15Taken(t *testing.T) {
	for _, s := range someRows() {
		for _, room := range append([]int{197, 198, 199}, someRooms...) {
			_, loads := stepped(s, room)
			want := 0
			for i := range len(loads) - 1 {
				want += max(0, loads[i+1]-loads[i])
			}
			n, ok := impl.StepTaken(s, room)
			wantNumber(t, fmt.Sprintf("StepTaken(%q, %d)", s, room), n, ok, want, true)
		}
		n, ok := impl.StepTaken(s, 200)
		wantNumber(t, fmt.Sprintf("StepTaken(%q, 200)", s), n, ok, strings.Count(s, "1"), true)
	}
}

func TestPromise15TakenGrowsLess(t *testing.T) {
	for _, s := range append(shortRows(7), longRows()...) {
		for room := 1; room < 199; room++ {
			first, ok1 := impl.StepTaken(s, room)
			second, ok2 := impl.StepTaken(s, room+1)
			third, ok3 := impl.StepTaken(s, room+2)
			if !ok1 || !ok2 || !ok3 || second < first || third-second > second-first {
				t.Errorf("StepTaken(%q) for the rooms from %d on returned %d, %v, %d, %v, %d, %v",
					s, room, first, ok1, second, ok2, third, ok3)
			}
		}
	}
}

func TestPromise15TakenOfCases(t *testing.T) {
	cases := []struct {
		s    string
		room int
		want int
	}{
		{"", 1, 0},
		{"", impl.RoomMax, 0},
		{"0000", 1, 0},
		{"1", 1, 1},
		{"1000", 1, 1},
		{"1101", 1, 2},
		{"1101", 2, 3},
		{"111", 2, 2},
		{"1110011", 2, 4},
		{"1110011", 1, 2},
		// Their steps are too long for a row.
		{ones(most), 1, 1},
		{ones(most), 119, 119},
		{ones(most), 120, 120},
		{ones(most), impl.RoomMax, 120},
		{zeros(most-1) + "1", impl.RoomMax, 1},
		{strings.Repeat("01", most/2), 1, 60},
	}
	for _, c := range cases {
		n, ok := impl.StepTaken(c.s, c.room)
		wantNumber(t, fmt.Sprintf("StepTaken(%q, %d)", c.s, c.room), n, ok, c.want, true)
	}
}

func TestPromise16Back(t *testing.T) {
	for _, s := range someRows() {
		for _, room := range someRooms {
			call := fmt.Sprintf("StepBack(%q, %d)", s, room)
			want, told := steppedBack(s, room)
			back, ok := impl.StepBack(s, room)
			wantText(t, call, back, ok, want, told)
			if !ok {
				continue
			}
			again, ok := impl.StepOf(back, room)
			wantText(t, "StepOf of "+call, again, ok, tidied(s), true)
		}
	}
}

func TestPromise16BackOfCases(t *testing.T) {
	half := most / 2
	for _, c := range []stepCase{
		{"", 1, "", true},
		{"", impl.RoomMax, "", true},
		{"00", 1, "", true},
		{zeros(most), impl.RoomMax, "", true},
		{"01", 1, "1", true},
		{"0100", impl.RoomMax, "1", true},
		{"0011", 200, "11", true},
		{"0011", 2, "11", true},
		{"0011", 1, "011", true},
		{"011", 1, "11", true},
		{"001101", 200, "11001", true},
		{"0111", 1, "111", true},
		{"00111", 2, "111", true},
		{zeros(half) + ones(half), impl.RoomMax, ones(half), true},
		{zeros(most-1) + "1", 1, zeros(most-2) + "1", true},
		{"0" + ones(most-1), 1, ones(most - 1), true},
		// A ball is still in the carrier at the box 0.
		{"1", 1, "", false},
		{"1", impl.RoomMax, "", false},
		{"1000", 1, "", false},
		{"11", 200, "", false},
		{"11", 1, "", false},
		{"011", 2, "", false},
		{"011", 200, "", false},
		{"1011", 1, "", false},
		{"0111", 2, "", false},
		{"10001", 1, "", false},
		{"1" + zeros(most-1), 1, "", false},
		{ones(most), 1, "", false},
		{ones(most), impl.RoomMax, "", false},
		{zeros(half-1) + ones(half+1), impl.RoomMax, "", false},
	} {
		back, ok := impl.StepBack(c.s, c.room)
		wantText(t, fmt.Sprintf("StepBack(%q, %d)", c.s, c.room), back, ok, c.want, c.ok)
	}
}

func TestPromise17Many(t *testing.T) {
	for _, s := range append(shortRows(4), longRows()...) {
		for _, room := range []int{1, 2, 3, 60, 200} {
			want, told := tidied(s), true
			for n := range 101 {
				call := fmt.Sprintf("StepMany(%q, %d, %d)", s, room, n)
				got, ok := impl.StepMany(s, room, n)
				wantText(t, call, got, ok, want, told)
				if !ok {
					// All of the longer ones fail, too, and the last one stands for them.
					got, ok = impl.StepMany(s, room, 100)
					wantText(t, fmt.Sprintf("StepMany(%q, %d, 100)", s, room), got, ok, "", false)
					break
				}
				want, told = impl.StepOf(got, room)
			}
		}
	}
}

func TestPromise17ManyOfCases(t *testing.T) {
	cases := []struct {
		s       string
		room, n int
		want    string
		ok      bool
	}{
		{"", 1, 0, "", true},
		{"", impl.RoomMax, 100, "", true},
		{"000", 1, 0, "", true},
		{"000", 1, 100, "", true},
		{"1011000", 2, 0, "1011", true},
		{"1", 1, 99, zeros(99) + "1", true},
		{"1", impl.RoomMax, 100, zeros(100) + "1", true},
		{zeros(19) + "1", 1, 100, zeros(119) + "1", true},
		{zeros(20) + "1", 1, 100, "", false},
		{zeros(20) + "1", 1, 99, zeros(119) + "1", true},
		{ones(20), 1, 100, zeros(100) + ones(20), true},
		{ones(21), 1, 100, "", false},
		{"11", impl.RoomMax, 59, zeros(118) + "11", true},
		{"11", impl.RoomMax, 60, "", false},
		{"111001", 3, 2, "00000100111", true},
		// No step, so none is too long.
		{ones(most), 1, 0, ones(most), true},
		{ones(most), impl.RoomMax, 0, ones(most), true},
		{zeros(most-1) + "1", impl.RoomMax, 0, zeros(most-1) + "1", true},
		{ones(most), 1, 1, "", false},
		{zeros(most-1) + "1", 1, 1, "", false},
		{zeros(most-2) + "1", 1, 2, "", false},
	}
	for _, c := range cases {
		got, ok := impl.StepMany(c.s, c.room, c.n)
		wantText(t, fmt.Sprintf("StepMany(%q, %d, %d)", c.s, c.room, c.n), got, ok, c.want, c.ok)
	}
}

func TestPromise17ManyFails(t *testing.T) {
	for _, s := range []string{"", "0", "1", "0110", ones(most), zeros(most)} {
		for _, room := range []int{1, 2, impl.RoomMax, 0, impl.RoomMax + 1} {
			for _, n := range []int{-1, -2, math.MinInt, 101, 102, math.MaxInt} {
				got, ok := impl.StepMany(s, room, n)
				wantText(t, fmt.Sprintf("StepMany(%q, %d, %d)", s, room, n), got, ok, "", false)
			}
		}
	}
}

func TestPromise18Great(t *testing.T) {
	for _, s := range someRows() {
		want, told := impl.StepOf(s, impl.RoomMax)
		got, ok := impl.StepGreat(s)
		wantText(t, fmt.Sprintf("StepGreat(%q)", s), got, ok, want, told)
		after, _ := stepped(s, impl.RoomMax)
		if ok != (len(after) <= most) || ok && got != after {
			t.Errorf("StepGreat(%q) returned %q, %v; want %q", s, got, ok, after)
		}
	}
}

func TestPromise18GreatOfCases(t *testing.T) {
	for s, want := range map[string]string{
		"":         "",
		"0000":     "",
		"1":        "01",
		"1000":     "01",
		"11":       "0011",
		"101":      "0101",
		"11001":    "001101",
		"1101":     "001011",
		"111":      "000111",
		"11100100": "00011011",
	} {
		got, ok := impl.StepGreat(s)
		wantText(t, fmt.Sprintf("StepGreat(%q)", s), got, ok, want, true)
	}
}
