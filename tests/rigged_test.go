package tests

import (
	"fmt"
	"math"
	"slices"
	"strings"
	"testing"

	"loop.example/boxball/impl"
)

// badBoxes are numbers of boxes that no row has.
var badBoxes = []int{-1, -2, -most, math.MinInt, most + 1, most + 2, math.MaxInt}

// wantNoRigging checks that each function of a list of parts fails for a list, a number of boxes, and a size or room.
func wantNoRigging(t *testing.T, list []impl.Part, boxes, room int) {
	t.Helper()
	if impl.RigIn(list) {
		t.Errorf("RigIn(%v) holds", list)
	}
	if impl.RigFits(list, boxes) {
		t.Errorf("RigFits(%v, %d) holds", list, boxes)
	}
	n, ok := impl.RigRoom(list, boxes, room)
	wantNumber(t, fmt.Sprintf("RigRoom(%v, %d, %d)", list, boxes, room), n, ok, 0, false)
	s, ok := impl.RigRow(list, boxes)
	wantText(t, fmt.Sprintf("RigRow(%v, %d)", list, boxes), s, ok, "", false)
	after, ok := impl.RigFlow(list, room)
	wantParts(t, fmt.Sprintf("RigFlow(%v, %d)", list, room), after, ok, nil, false)
	sizes, ok := impl.RigSizes(list)
	wantList(t, fmt.Sprintf("RigSizes(%v)", list), sizes, ok, nil, false)
}

func TestNoPartsFail(t *testing.T) {
	for _, list := range noParts() {
		for _, boxes := range []int{0, 1, 60, most, -1, most + 1} {
			for _, room := range []int{1, 2, 60, 0, 61, impl.RoomMax} {
				wantNoRigging(t, list, boxes, room)
			}
		}
	}
}

func TestPromise27In(t *testing.T) {
	for _, list := range someParts() {
		if !impl.RigIn(list) {
			t.Errorf("RigIn(%v) does not hold", list)
		}
		if len(list) > 0 && !impl.RigIn(list[:len(list)-1]) {
			t.Errorf("RigIn(%v) holds, but not without the last part", list)
		}
		sizes, ok := impl.RigSizes(list)
		if !ok || !slices.IsSorted(turned(sizes)) {
			t.Errorf("RigSizes(%v) returned %v, %v", list, sizes, ok)
		}
	}
}

func TestPromise27InOfCases(t *testing.T) {
	cases := []struct {
		list []impl.Part
		want bool
	}{
		{nil, true},
		{[]impl.Part{}, true},
		{parts(1, 0), true},
		{parts(60, 1000), true},
		{parts(0, 0), false},
		{parts(61, 0), false},
		{parts(1, -1), false},
		{parts(1, 1001), false},
		// Sizes that fall, with any riggings.
		{parts(2, 0, 1, 1000), true},
		{parts(60, 0, 59, 1, 1, 2), true},
		{parts(1, 1000, 2, 0), false},
		// Parts of one size.
		{parts(2, 3, 2, 3), true},
		{parts(2, 3, 2, 2), true},
		{parts(2, 2, 2, 3), false},
		{parts(3, 0, 2, 5, 2, 0, 1, 9), true},
		{parts(3, 0, 2, 0, 2, 5, 1, 9), false},
		{manyParts(60, 4, 4), true},
		{manyParts(61, 4, 4), false},
		{append(manyParts(59, 4, 4), parts(4, 3)...), true},
		{append(manyParts(59, 4, 4), parts(4, 5)...), false},
	}
	for _, c := range cases {
		if got := impl.RigIn(c.list); got != c.want {
			t.Errorf("RigIn(%v) returned %v", c.list, got)
		}
	}
}

func TestPromise28Room(t *testing.T) {
	for _, list := range someParts() {
		for _, boxes := range []int{0, 1, 7, most - 1, most} {
			rooms := []int{boxes}
			for size := 1; size <= 60; size++ {
				room, ok := impl.RigRoom(list, boxes, size)
				wantNumber(t, fmt.Sprintf("RigRoom(%v, %d, %d)", list, boxes, size), room, ok, roomIn(list, boxes, size), true)
				rooms = append(rooms, room)
			}
			for i := 2; i < len(rooms); i++ {
				if rooms[i] > rooms[i-1] || rooms[i-1]-rooms[i] > rooms[i-2]-rooms[i-1] {
					t.Errorf("RigRoom(%v, %d) returned %v for the sizes from 0 on", list, boxes, rooms)
					break
				}
			}
		}
	}
	for boxes := range most + 1 {
		for size := 1; size <= 60; size++ {
			room, ok := impl.RigRoom(nil, boxes, size)
			wantNumber(t, fmt.Sprintf("RigRoom(nil, %d, %d)", boxes, size), room, ok, boxes, true)
		}
	}
}

func TestPromise28RoomOfCases(t *testing.T) {
	cases := []struct {
		list              []impl.Part
		boxes, size, want int
	}{
		{nil, 0, 1, 0},
		{nil, 0, 60, 0},
		{nil, most, 1, most},
		{nil, most, 60, most},
		{parts(2, 0), 4, 2, 0},
		{parts(2, 0), 4, 1, 2},
		{parts(1, 0), 0, 1, -2},
		{parts(60, 1000), 0, 60, -120},
		{parts(60, 1000), most, 60, 0},
		{parts(60, 1000), most, 1, most - 2},
		// Less than all sizes, one of them, between them, the greatest, and greater than all.
		{parts(5, 0, 3, 9, 3, 0), 20, 1, 14},
		{parts(5, 0, 3, 9, 3, 0), 20, 2, 8},
		{parts(5, 0, 3, 9, 3, 0), 20, 3, 2},
		{parts(5, 0, 3, 9, 3, 0), 20, 4, 0},
		{parts(5, 0, 3, 9, 3, 0), 20, 5, -2},
		{parts(5, 0, 3, 9, 3, 0), 20, 6, -2},
		{parts(5, 0, 3, 9, 3, 0), 20, 60, -2},
		{manyParts(60, 60, 0), most, 60, most - 7200},
		{manyParts(60, 60, 0), 0, 1, -120},
		{manyParts(60, 1, 0), most, 60, 0},
	}
	for _, c := range cases {
		room, ok := impl.RigRoom(c.list, c.boxes, c.size)
		wantNumber(t, fmt.Sprintf("RigRoom(%v, %d, %d)", c.list, c.boxes, c.size), room, ok, c.want, true)
	}
}

func TestPromise28RoomFails(t *testing.T) {
	for _, list := range [][]impl.Part{nil, parts(1, 0), parts(60, 0, 2, 1), manyParts(60, 1, 0)} {
		for _, size := range []int{0, -1, -60, math.MinInt, 61, 62, math.MaxInt} {
			for _, boxes := range []int{0, 1, 60, most, -1, most + 1} {
				room, ok := impl.RigRoom(list, boxes, size)
				wantNumber(t, fmt.Sprintf("RigRoom(%v, %d, %d)", list, boxes, size), room, ok, 0, false)
			}
		}
		for _, boxes := range badBoxes {
			for _, size := range []int{1, 2, 60} {
				room, ok := impl.RigRoom(list, boxes, size)
				wantNumber(t, fmt.Sprintf("RigRoom(%v, %d, %d)", list, boxes, size), room, ok, 0, false)
			}
		}
	}
}

func TestPromise29Fits(t *testing.T) {
	for _, list := range someParts() {
		for boxes := range most + 1 {
			fits := impl.RigFits(list, boxes)
			if fits != fitsIn(list, boxes) {
				t.Errorf("RigFits(%v, %d) returned %v", list, boxes, fits)
			}
			if !fits {
				continue
			}
			for _, part := range list {
				if room, ok := impl.RigRoom(list, boxes, part.Size); !ok || part.Rig > room {
					t.Errorf("RigFits(%v, %d) holds; the room of the size %d is %d, %v", list, boxes, part.Size, room, ok)
				}
			}
			if boxes < most && !impl.RigFits(list, boxes+1) {
				t.Errorf("RigFits(%v, %d) holds, and not for one box more", list, boxes)
			}
		}
	}
}

func TestPromise29FitsOfCases(t *testing.T) {
	cases := []struct {
		list  []impl.Part
		boxes int
		want  bool
	}{
		{nil, 0, true},
		{nil, most, true},
		{parts(1, 0), 0, false},
		{parts(1, 0), 1, false},
		{parts(1, 0), 2, true},
		{parts(1, 1), 2, false},
		{parts(1, 1), 3, true},
		// A rigging of exactly the room, and one greater by 1.
		{parts(1, 118), most, true},
		{parts(1, 119), most, false},
		{parts(60, 0), most, true},
		{parts(60, 1), most, false},
		{parts(60, 0), most - 1, false},
		{parts(3, 4, 1, 8), 12, true},
		{parts(3, 5, 1, 8), 12, false},
		{parts(3, 4, 1, 9), 12, false},
		{parts(3, 4, 1, 0), 11, false},
		// Parts of one size, of which the first or none is full.
		{parts(2, 2, 2, 0), 10, true},
		{parts(2, 2, 2, 2), 10, true},
		{parts(2, 3, 2, 0), 10, false},
		{parts(2, 1, 2, 0), 10, true},
		{manyParts(60, 1, 0), most, true},
		{manyParts(60, 1, 0), most - 1, false},
		{append(parts(1, 1), manyParts(59, 1, 0)...), most, false},
		{parts(1, 1000), most, false},
	}
	for _, c := range cases {
		if got := impl.RigFits(c.list, c.boxes); got != c.want {
			t.Errorf("RigFits(%v, %d) returned %v", c.list, c.boxes, got)
		}
	}
	for _, list := range [][]impl.Part{nil, parts(1, 0), parts(60, 0)} {
		for _, boxes := range badBoxes {
			if impl.RigFits(list, boxes) {
				t.Errorf("RigFits(%v, %d) holds", list, boxes)
			}
		}
	}
}

func TestPromise30Of(t *testing.T) {
	for _, s := range highRows() {
		call := fmt.Sprintf("RigOf(%q)", s)
		list, ok := impl.RigOf(s)
		wantParts(t, call, list, ok, riggedIn(s), true)
		if !impl.RigFits(list, len(s)) {
			t.Errorf("%s returned %v, which does not fit", call, list)
		}
		again, ok := impl.RigRow(list, len(s))
		wantText(t, "RigRow of "+call, again, ok, s, true)
		sizes, _ := impl.RigSizes(list)
		want, told := impl.ShapeOf(s)
		wantList(t, "RigSizes of "+call, sizes, ok, want, told)
	}
}

func TestPromise30OfCases(t *testing.T) {
	cases := []struct {
		s    string
		want []impl.Part
	}{
		{"", nil},
		{"01", parts(1, 0)},
		{"001", parts(1, 1)},
		{"0011", parts(2, 0)},
		{"00011", parts(2, 1)},
		{"001101", parts(2, 0, 1, 2)},
		// Parts of one size, with the same rigging and with different ones.
		{"0101", parts(1, 0, 1, 0)},
		{"00101", parts(1, 1, 1, 1)},
		{"010001", parts(1, 2, 1, 0)},
		{"00110011", parts(2, 0, 2, 0)},
		// Of the parts of one size only one is full, and this one grows.
		{"0100011", parts(2, 1, 1, 0)},
		{"01000111", parts(3, 0, 1, 0)},
		// Both are full, and only one of them grows.
		{"001011", parts(2, 0, 1, 1)},
		// The greatest full part grows, not a lesser one that is full, too.
		{"0000111011", parts(4, 0, 1, 5)},
		{zeros(60) + ones(60), parts(60, 0)},
		{zeros(61) + ones(59), parts(59, 2)},
		{zeros(most-1) + "1", parts(1, most-2)},
		{strings.Repeat("01", 60), manyParts(60, 1, 0)},
		{"01" + zeros(most-3) + "1", parts(1, most-4, 1, 0)},
	}
	for _, c := range cases {
		list, ok := impl.RigOf(c.s)
		wantParts(t, fmt.Sprintf("RigOf(%q)", c.s), list, ok, c.want, true)
	}
}

func TestPromise30OfFails(t *testing.T) {
	for _, s := range noRows() {
		list, ok := impl.RigOf(s)
		wantParts(t, fmt.Sprintf("RigOf(%q)", s), list, ok, nil, false)
	}
	lows := []string{
		"1", "11", "10", "011", "0110", "01011", "00111", "0101101", "1" + zeros(most-2) + "1", ones(most), zeros(59) + ones(61), zeros(59) + ones(60),
		// They end with an empty box, so they are not high, whatever is ahead.
		"0", "00", "010", "0100", "001100", zeros(most), zeros(60) + ones(59) + "0", "01" + zeros(most-2),
	}
	for _, s := range someRows() {
		if !isHigh(s) {
			lows = append(lows, s)
		}
	}
	for _, s := range lows {
		list, ok := impl.RigOf(s)
		wantParts(t, fmt.Sprintf("RigOf(%q)", s), list, ok, nil, false)
	}
}

func TestPromise31StepsAreFlows(t *testing.T) {
	for _, s := range highRows() {
		list, _ := impl.RigOf(s)
		for _, room := range someRooms {
			after, ok := impl.StepOf(s, room)
			if !ok {
				continue
			}
			call := fmt.Sprintf("RigOf(%q), a step with the room %d behind %q,", after, room, s)
			got, ok1 := impl.RigOf(after)
			want, ok2 := impl.RigFlow(list, room)
			if !ok1 || !ok2 {
				t.Errorf("%s returned %v, %v, and RigFlow(%v, %d) %v, %v", call, got, ok1, list, room, want, ok2)
				continue
			}
			wantParts(t, call, got, ok1, want, ok2)
		}
	}
}

func TestPromise32And33Row(t *testing.T) {
	for _, f := range someFitting() {
		call := fmt.Sprintf("RigRow(%v, %d)", f.list, f.boxes)
		want, whole := rowOfRigged(f.list, f.boxes)
		if !fitsIn(f.list, f.boxes) || !whole {
			t.Errorf("%v in %d boxes is no good example", f.list, f.boxes)
			continue
		}
		if !impl.RigFits(f.list, f.boxes) {
			t.Errorf("RigFits(%v, %d) does not hold", f.list, f.boxes)
		}
		s, ok := impl.RigRow(f.list, f.boxes)
		wantText(t, call, s, ok, want, true)
		if !impl.RowHigh(s) || len(s) > f.boxes {
			t.Errorf("%s returned %q: not high, or too long", call, s)
		}
		again, ok := impl.RigOf(s)
		wantParts(t, "RigOf of "+call, again, ok, f.list, true)
	}
}

func TestPromise32RowInAllBoxes(t *testing.T) {
	lists := someParts()[:14]
	for _, f := range someFitting()[:15] {
		lists = append(lists, f.list)
	}
	for _, list := range append(lists, fittingIn(9)...) {
		for boxes := range most + 1 {
			call := fmt.Sprintf("RigRow(%v, %d)", list, boxes)
			s, ok := impl.RigRow(list, boxes)
			if !fitsIn(list, boxes) {
				wantText(t, call, s, ok, "", false)
				continue
			}
			want, whole := rowOfRigged(list, boxes)
			wantText(t, call, s, ok, want, whole)
		}
	}
}

func TestPromise32RowOfCases(t *testing.T) {
	cases := []struct {
		list  []impl.Part
		boxes int
		want  string
		ok    bool
	}{
		{nil, 0, "", true},
		{nil, 1, "", true},
		{nil, most, "", true},
		{parts(1, 0), 2, "01", true},
		{parts(1, 0), most, "01", true},
		{parts(1, 118), most, zeros(119) + "1", true},
		{parts(2, 0, 1, 2), 6, "001101", true},
		{parts(2, 0, 1, 2), 9, "001101", true},
		{parts(60, 0), most, zeros(60) + ones(60), true},
		{manyParts(60, 1, 0), most, strings.Repeat("01", 60), true},
		// Parts of one size, of which some are full.
		{parts(1, 2, 1, 0), 6, "010001", true},
		{parts(1, 1, 1, 0), 6, "01001", true},
		{parts(1, 2, 1, 2), 6, "000101", true},
		{parts(2, 2, 2, 0), 10, "0011000011", true},
		{parts(2, 1, 1, 0), 7, "0100011", true},
		// The least full part is made less, not a greater one that is full, too.
		{parts(2, 0, 1, 1), 6, "001011", true},
		{parts(4, 0, 1, 5), 10, "0000111011", true},
		// They do not fit, or some part would be left over.
		{parts(1, 0), 0, "", false},
		{parts(1, 0), 1, "", false},
		{parts(1, 1), 2, "", false},
		{parts(2, 0), 3, "", false},
		{parts(60, 0), most - 1, "", false},
		{parts(60, 1), most, "", false},
		{parts(1, 3, 1, 0), 6, "", false},
		{parts(1, 1000), most, "", false},
	}
	for _, c := range cases {
		s, ok := impl.RigRow(c.list, c.boxes)
		wantText(t, fmt.Sprintf("RigRow(%v, %d)", c.list, c.boxes), s, ok, c.want, c.ok)
	}
	for _, list := range [][]impl.Part{nil, parts(1, 0), parts(2, 1, 1, 0)} {
		for _, boxes := range badBoxes {
			s, ok := impl.RigRow(list, boxes)
			wantText(t, fmt.Sprintf("RigRow(%v, %d)", list, boxes), s, ok, "", false)
		}
	}
}

func TestPromise34Flow(t *testing.T) {
	for _, list := range someParts() {
		for _, room := range someRooms {
			call := fmt.Sprintf("RigFlow(%v, %d)", list, room)
			want, told := flowIn(list, room)
			after, ok := impl.RigFlow(list, room)
			wantParts(t, call, after, ok, want, told)
			if !ok {
				continue
			}
			before, _ := impl.RigSizes(list)
			sizes, ok := impl.RigSizes(after)
			wantList(t, "RigSizes of "+call, sizes, ok, before, true)
			wantFlowsExchange(t, list, room)
		}
	}
}

// wantFlowsExchange checks that a flow with the room 1 leads to the same behind and ahead of one with another room, if both are told.
func wantFlowsExchange(t *testing.T, list []impl.Part, room int) {
	t.Helper()
	first, ok1 := impl.RigFlow(list, room)
	other, ok2 := impl.RigFlow(list, 1)
	if !ok1 || !ok2 {
		return
	}
	behind, ok1 := impl.RigFlow(first, 1)
	ahead, ok2 := impl.RigFlow(other, room)
	wantParts(t, fmt.Sprintf("RigFlow(%v) with the rooms 1 and %d", list, room), ahead, ok2, behind, ok1)
}

func TestPromise34FlowOfCases(t *testing.T) {
	cases := []struct {
		list []impl.Part
		room int
		want []impl.Part
		ok   bool
	}{
		{nil, 1, nil, true},
		{[]impl.Part{}, impl.RoomMax, nil, true},
		{parts(1, 0), 1, parts(1, 1), true},
		{parts(1, 0), impl.RoomMax, parts(1, 1), true},
		{parts(60, 0), 1, parts(60, 1), true},
		{parts(60, 0), 59, parts(60, 59), true},
		{parts(60, 0), 60, parts(60, 60), true},
		{parts(60, 0), 61, parts(60, 60), true},
		{parts(60, 0), impl.RoomMax, parts(60, 60), true},
		{parts(5, 2, 3, 7, 3, 1, 1, 0), 2, parts(5, 4, 3, 9, 3, 3, 1, 1), true},
		{parts(5, 2, 3, 7, 3, 1, 1, 0), 3, parts(5, 5, 3, 10, 3, 4, 1, 1), true},
		{parts(5, 2, 3, 7, 3, 1, 1, 0), impl.RoomMax, parts(5, 7, 3, 10, 3, 4, 1, 1), true},
		{manyParts(60, 60, 0), impl.RoomMax, manyParts(60, 60, 60), true},
		// Riggings that become exactly 1000, and more.
		{parts(1, 999), 1, parts(1, 1000), true},
		{parts(1, 1000), 1, nil, false},
		{parts(1, 999), impl.RoomMax, parts(1, 1000), true},
		{parts(60, 940), impl.RoomMax, parts(60, 1000), true},
		{parts(60, 941), impl.RoomMax, nil, false},
		{parts(60, 941), 59, parts(60, 1000), true},
		{parts(60, 941), 1, parts(60, 942), true},
		{parts(60, 999), 1, parts(60, 1000), true},
		{parts(60, 1000), 1, nil, false},
		{parts(60, 1000), impl.RoomMax, nil, false},
		{parts(3, 997, 1, 999), 3, parts(3, 1000, 1, 1000), true},
		{parts(3, 997, 1, 1000), 3, nil, false},
		{parts(3, 998, 1, 0), 3, nil, false},
		{manyParts(60, 2, 998), 2, manyParts(60, 2, 1000), true},
		{append(parts(2, 999), manyParts(59, 2, 0)...), 2, nil, false},
	}
	for _, c := range cases {
		after, ok := impl.RigFlow(c.list, c.room)
		wantParts(t, fmt.Sprintf("RigFlow(%v, %d)", c.list, c.room), after, ok, c.want, c.ok)
	}
	for _, list := range [][]impl.Part{nil, parts(1, 0), parts(60, 1000), manyParts(60, 1, 0)} {
		for _, room := range badRooms {
			after, ok := impl.RigFlow(list, room)
			wantParts(t, fmt.Sprintf("RigFlow(%v, %d)", list, room), after, ok, nil, false)
		}
	}
}

func TestPromise35Sizes(t *testing.T) {
	for _, list := range someParts() {
		sizes, ok := impl.RigSizes(list)
		wantList(t, fmt.Sprintf("RigSizes(%v)", list), sizes, ok, sizesIn(list), true)
	}
	for _, c := range []struct {
		list []impl.Part
		want []int
	}{
		{nil, nil},
		{[]impl.Part{}, nil},
		{parts(60, 1000, 1, 0), []int{60, 1}},
		{parts(2, 3, 2, 3, 2, 0), []int{2, 2, 2}},
		{manyParts(60, 1, 0), many(60, 1)},
	} {
		sizes, ok := impl.RigSizes(c.list)
		wantList(t, fmt.Sprintf("RigSizes(%v)", c.list), sizes, ok, c.want, true)
	}
}

func TestRiggedListsStay(t *testing.T) {
	list := parts(5, 3, 2, 2, 2, 0, 1, 4)
	// The list given has room behind it, in which nothing may be written.
	given := append(slices.Clone(list), parts(1, 0, 1, 0)...)
	whole := slices.Clone(given)
	given = given[:len(list)]
	for range 2 {
		impl.RigIn(given)
		impl.RigFits(given, most)
		impl.RigRoom(given, most, 3)
		impl.RigRow(given, most)
		sizes, _ := impl.RigSizes(given)
		spoil(sizes)
		after, ok := impl.RigFlow(given, 2)
		wantParts(t, "RigFlow", after, ok, parts(5, 5, 2, 4, 2, 2, 1, 5), true)
		spoilParts(after)
		if !slices.Equal(given[:len(whole)], whole) {
			t.Errorf("the argument %v is %v now", whole, given[:len(whole)])
		}
	}
}

func TestRigOfIsNew(t *testing.T) {
	for range 2 {
		list, ok := impl.RigOf("001101")
		wantParts(t, "RigOf", list, ok, parts(2, 0, 1, 2), true)
		spoilParts(list)
	}
}
