package tests

import (
	"slices"
	"strings"

	"loop.example/boxball/impl"
)

// roundsIn returns how many neighbours of a ball and an empty box each round takes out of a row.
func roundsIn(s string) []int {
	s += zeros(strings.Count(s, "1"))
	var rounds []int
	for strings.Contains(s, "1") {
		rounds = append(rounds, strings.Count(s, "10"))
		s = strings.ReplaceAll(s, "10", "")
	}
	return rounds
}

// shapeIn returns the shape of a row.
func shapeIn(s string) []int {
	var sizes []int
	for _, taken := range roundsIn(s) {
		for len(sizes) < taken {
			sizes = append(sizes, 0)
		}
		for k := range taken {
			sizes[k]++
		}
	}
	return sizes
}

// lengthsOf returns the lengths of the parts of a text between its signs of one kind.
func lengthsOf(s, between string) []int {
	var lengths []int
	for _, part := range strings.Split(s, between) {
		if part != "" {
			lengths = append(lengths, len(part))
		}
	}
	return lengths
}

// apartIn reports whether a text of any length is apart as a row.
func apartIn(s string) bool {
	runs := lengthsOf(s, "0")
	gaps := lengthsOf(strings.Trim(s, "0"), "1")
	for i, gap := range gaps {
		if runs[i+1] < runs[i] || gap < runs[i] {
			return false
		}
	}
	return true
}

// timeOf returns behind how many steps with the greatest room a row is apart, and whether it is so before it is too long.
func timeOf(s string) (int, bool) {
	for n := 0; n <= 60 && len(tidied(s)) <= impl.BoxesMax; n++ {
		if apartIn(s) {
			return n, true
		}
		s, _ = stepped(s, impl.RoomMax)
	}
	return 0, false
}

// sum returns the sum of a list.
func sum(list []int) int {
	n := 0
	for _, x := range list {
		n += x
	}
	return n
}

// turned returns a list in the opposite order.
func turned(list []int) []int {
	list = slices.Clone(list)
	slices.Reverse(list)
	return list
}

// many returns n numbers x.
func many(n, x int) []int {
	return slices.Repeat([]int{x}, n)
}

// shortLists returns all lists of at most n numbers from 1 to a greatest one, the empty one first.
func shortLists(n, greatest int) [][]int {
	all := [][]int{nil}
	for i := 0; len(all[i]) < n; i++ {
		for x := 1; x <= greatest; x++ {
			all = append(all, append(slices.Clone(all[i]), x))
		}
	}
	return all
}
