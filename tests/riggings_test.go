package tests

import (
	"cmp"
	"math"
	"slices"
	"strings"
	"testing"

	"loop.example/boxball/impl"
)

// parts returns the list of parts with some sizes and riggings, told in turn.
func parts(numbers ...int) []impl.Part {
	var list []impl.Part
	for pair := range slices.Chunk(numbers, 2) {
		list = append(list, impl.Part{Size: pair[0], Rig: pair[1]})
	}
	return list
}

// manyParts returns n parts of a size and a rigging.
func manyParts(n, size, rig int) []impl.Part {
	return slices.Repeat(parts(size, rig), n)
}

// roomIn returns the room of a size in some boxes.
func roomIn(list []impl.Part, boxes, size int) int {
	for _, part := range list {
		boxes -= 2 * min(size, part.Size)
	}
	return boxes
}

// fullIn returns the indexes of the full parts, the least part first.
func fullIn(list []impl.Part, boxes int) []int {
	var full []int
	for i, part := range list {
		if part.Rig == roomIn(list, boxes, part.Size) {
			full = append(full, i)
		}
	}
	slices.SortFunc(full, func(i, j int) int { return cmp.Compare(list[i].Size, list[j].Size) })
	return full
}

// sortedParts returns a list with the greatest sizes first, and of one size the greatest riggings.
func sortedParts(list []impl.Part) []impl.Part {
	return slices.SortedFunc(slices.Values(list), func(a, b impl.Part) int {
		return cmp.Or(cmp.Compare(b.Size, a.Size), cmp.Compare(b.Rig, a.Rig))
	})
}

// riggedIn returns the rigged partition of a high row; its parts stay where they are made until the end.
func riggedIn(s string) []impl.Part {
	var list []impl.Part
	for boxes, sign := range s {
		if sign == '0' {
			continue
		}
		at := len(list)
		if full := fullIn(list, boxes); len(full) > 0 {
			at = full[len(full)-1]
		} else {
			list = append(list, impl.Part{})
		}
		list[at].Size++
		list[at].Rig = roomIn(list, boxes+1, list[at].Size)
	}
	return sortedParts(list)
}

// rowOfRigged returns the tidy row of a rigged partition in some boxes, and whether no part is left over.
func rowOfRigged(list []impl.Part, boxes int) (string, bool) {
	list = slices.Clone(list)
	s := ""
	for ; boxes > 0; boxes-- {
		full := fullIn(list, boxes)
		if len(full) == 0 {
			s = "0" + s
			continue
		}
		s = "1" + s
		at := full[0]
		list[at].Size--
		if list[at].Size == 0 {
			list = slices.Delete(list, at, at+1)
		} else {
			list[at].Rig = roomIn(list, boxes-1, list[at].Size)
		}
	}
	return tidied(s), len(list) == 0
}

// fitsIn reports whether no rigging of a rigged partition is greater than the room of its size.
func fitsIn(list []impl.Part, boxes int) bool {
	for _, part := range list {
		if part.Rig > roomIn(list, boxes, part.Size) {
			return false
		}
	}
	return true
}

// flowIn returns a rigged partition with the riggings behind a step with a room, and whether none is too great.
func flowIn(list []impl.Part, room int) ([]impl.Part, bool) {
	list = slices.Clone(list)
	for i := range list {
		list[i].Rig += min(list[i].Size, room)
		if list[i].Rig > 1000 {
			return nil, false
		}
	}
	return sortedParts(list), true
}

// sizesIn returns the sizes of some parts.
func sizesIn(list []impl.Part) []int {
	var sizes []int
	for _, part := range list {
		sizes = append(sizes, part.Size)
	}
	return sizes
}

// fittingIn returns all rigged partitions that fit in some boxes.
func fittingIn(boxes int) [][]impl.Part {
	var all [][]impl.Part
	for _, sizes := range shortSizes(boxes/2, boxes/2) {
		all = append(all, riggingsOf(sizes, boxes)...)
	}
	return all
}

// shortSizes returns all lists of sizes that do not rise, with at most a sum and none greater than a greatest one.
func shortSizes(sum, greatest int) [][]int {
	all := [][]int{nil}
	for first := 1; first <= min(sum, greatest); first++ {
		for _, others := range shortSizes(sum-first, first) {
			all = append(all, append([]int{first}, others...))
		}
	}
	return all
}

// riggingsOf returns all rigged partitions with some sizes that fit in some boxes.
func riggingsOf(sizes []int, boxes int) [][]impl.Part {
	var bare []impl.Part
	for _, size := range sizes {
		bare = append(bare, impl.Part{Size: size})
	}
	all := [][]impl.Part{nil}
	for i, size := range sizes {
		var longer [][]impl.Part
		for _, list := range all {
			most := roomIn(bare, boxes, size)
			if i > 0 && sizes[i-1] == size {
				most = list[i-1].Rig
			}
			for rig := range most + 1 {
				longer = append(longer, append(slices.Clone(list), impl.Part{Size: size, Rig: rig}))
			}
		}
		all = longer
	}
	return all
}

// mixedParts returns a rigged partition that fits in some boxes, with at most a sum of sizes, that looks irregular and is the same in each run.
func mixedParts(boxes, sum, seed int) []impl.Part {
	x := uint32(seed*7919 + boxes)
	next := func(n int) int {
		x = x*1664525 + 1013904223
		return int(x>>16) % n
	}
	var list []impl.Part
	greatest := 1 + seed%7
	for sum > 0 && len(list) < 60 {
		size := min(1+next(greatest), sum)
		list = append(list, impl.Part{Size: size})
		sum -= size
	}
	for i, part := range list {
		room := roomIn(list, boxes, part.Size)
		// Every third one is full.
		list[i].Rig = room
		if next(3) > 0 {
			list[i].Rig = next(room + 1)
		}
	}
	return sortedParts(list)
}

// fitting is a rigged partition, and a number of boxes in which it fits.
type fitting struct {
	list  []impl.Part
	boxes int
}

// someFitting returns all rigged partitions that fit in a few boxes, and some in up to BoxesMax.
func someFitting() []fitting {
	all := []fitting{
		{nil, most},
		{parts(60, 0), most},
		{parts(1, 0), most}, {parts(1, 1), most}, {parts(1, 117), most}, {parts(1, 118), most},
		{parts(59, 0, 1, 0), most}, {parts(59, 0, 1, 116), most},
		{parts(30, 0, 30, 0), most},
		{parts(20, 40, 10, 60), most}, {parts(20, 60, 10, 80), most},
		{manyParts(60, 1, 0), most},
		{manyParts(30, 2, 0), most},
		{append(manyParts(15, 1, 60), manyParts(15, 1, 0)...), most},
		{append(manyParts(15, 1, 59), manyParts(15, 1, 58)...), most},
	}
	for boxes := range 13 {
		for _, list := range fittingIn(boxes) {
			all = append(all, fitting{list, boxes})
		}
	}
	for seed := range 60 {
		for _, boxes := range []int{most, most - 1, 90} {
			all = append(all, fitting{mixedParts(boxes, seed%(boxes/2)+1, seed), boxes}, fitting{mixedParts(boxes, boxes/2, seed), boxes})
		}
	}
	return all
}

// someParts returns rigged partitions that fit in some boxes or in none.
func someParts() [][]impl.Part {
	all := [][]impl.Part{
		parts(60, 1000), parts(60, 0), parts(1, 1000), parts(1, 0), parts(60, 1000, 1, 1000), parts(60, 0, 1, 0),
		parts(3, 1000, 3, 1000, 3, 0), parts(2, 0, 1, 1000), parts(5, 7, 5, 7, 5, 3, 2, 999, 2, 0, 1, 4),
		manyParts(60, 60, 1000), manyParts(60, 60, 0), manyParts(60, 1, 1000), manyParts(59, 7, 7),
		append(manyParts(30, 60, 0), manyParts(30, 59, 1000)...),
	}
	for _, f := range someFitting() {
		if f.boxes > 10 {
			all = append(all, f.list)
		}
	}
	return all
}

// noParts returns lists that are no rigged partitions.
func noParts() [][]impl.Part {
	all := [][]impl.Part{
		parts(1, 0, 2, 0), parts(1, 5, 2, 0), parts(1, 0, 2, 5), parts(59, 1000, 60, 1000), parts(3, 0, 1, 0, 2, 0), parts(3, 3, 3, 2, 4, 0),
		parts(1, 0, 1, 1), parts(60, 999, 60, 1000), parts(3, 2, 3, 1, 3, 2), parts(4, 0, 3, 0, 3, 1), parts(3, 0, 3, 1, 2, 0),
		manyParts(61, 1, 0), manyParts(61, 60, 1000), manyParts(62, 2, 2), manyParts(1000, 1, 0),
		manyParts(61, 0, 0), append(manyParts(60, 2, 0), parts(1, 0)...),
	}
	for _, bad := range []int{0, -1, -60, math.MinInt, 61, 62, math.MaxInt} {
		all = append(all, parts(bad, 0), parts(bad, 1000), parts(bad, 3, bad, 3), parts(bad, 0, 1, 0), parts(60, 0, bad, 0), parts(2, 0, bad, 0, 1, 0))
	}
	for _, bad := range []int{-1, -2, -1000, math.MinInt, 1001, 1002, math.MaxInt} {
		all = append(all, parts(1, bad), parts(60, bad), parts(2, bad, 2, bad), parts(2, bad, 1, 0), parts(2, 0, 1, bad), parts(3, 0, 2, bad, 1, 0))
	}
	for _, bad := range []impl.Part{{Size: 0, Rig: 0}, {Size: 61, Rig: 0}, {Size: 2, Rig: 0}, {Size: 1, Rig: -1}, {Size: 1, Rig: 1001}, {Size: 1, Rig: 1}} {
		all = append(all, append(manyParts(59, 1, 0), bad))
	}
	return all
}

// highRows returns high rows: short ones, and some of up to BoxesMax signs.
func highRows() []string {
	all := []string{
		zeros(60) + ones(60), zeros(60) + ones(59), zeros(59) + ones(59), zeros(most-1) + "1", "01" + zeros(most-3) + "1",
		strings.Repeat("01", 60), strings.Repeat("0011", 30), strings.Repeat("001", 40), strings.Repeat("000111", 20), zeros(30) + strings.Repeat("0111", 15) + zeros(29) + "1",
	}
	for _, s := range shortRows(13) {
		if isHigh(s) && s == tidied(s) {
			all = append(all, s)
		}
	}
	for seed := range 60 {
		for _, n := range []int{most, most - 1, most - 20, 60, 40} {
			all = append(all, mixedHighRow(n, seed))
		}
	}
	return all
}

// mixedHighRow returns a high row of n signs that looks irregular and is the same in each run.
func mixedHighRow(n, seed int) string {
	signs := []byte(mixedRow(n, seed))
	level := 0
	for i := range signs[:n-1] {
		// The last box is for a ball.
		if signs[i] == '1' && level > 0 && (i < n-2 || level > 1) {
			level--
		} else {
			signs[i] = '0'
			level++
		}
	}
	signs[n-1] = '1'
	return string(signs)
}

// wantParts checks a list of parts and the bool behind it; what fails is told by a false ok and an empty want.
func wantParts(t *testing.T, call string, got []impl.Part, gotOK bool, want []impl.Part, ok bool) {
	t.Helper()
	if !slices.Equal(got, want) || gotOK != ok {
		t.Errorf("%s returned %v, %v; want %v, %v", call, got, gotOK, want, ok)
	}
}

// spoilParts overwrites a list with all of its capacity.
func spoilParts(list []impl.Part) {
	for i := range list[:cap(list)] {
		list[:cap(list)][i] = impl.Part{Size: -7, Rig: -7}
	}
}
