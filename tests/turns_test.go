package tests

import "strings"

// mostRound is the greatest number of boxes of a circle.
const mostRound = 60

// shortCircles returns all circles of at most n signs.
func shortCircles(n int) []string {
	var all []string
	for _, s := range shortRows(n) {
		if isCircle(s) {
			all = append(all, s)
		}
	}
	return all
}

// longCircles returns circles near mostRound signs: without a ball, with balls in runs that go round the end, with one or two empty boxes more than balls, and mixed.
func longCircles() []string {
	var all []string
	for _, n := range []int{40, 41, mostRound - 3, mostRound - 2, mostRound - 1, mostRound} {
		balls := (n - 1) / 2
		all = append(all,
			zeros(n),
			"1"+zeros(n-1),
			zeros(n-1)+"1",
			"1"+zeros(n-2)+"1",
			ones(balls)+zeros(n-balls),
			zeros(n-balls)+ones(balls),
			ones(balls/2)+zeros(n-balls)+ones(balls-balls/2),
			strings.Repeat("10", balls)+zeros(n-2*balls),
			zeros(n-2*balls)+strings.Repeat("01", balls),
			strings.Repeat("0011", n/4-1)+zeros(n-4*(n/4-1)))
		for seed := range 12 {
			for _, few := range []int{3, 8, balls / 2, balls} {
				all = append(all, mixedCircle(n, few, seed))
			}
		}
	}
	return all
}

// mixedCircle returns a circle of n signs with some balls, which looks irregular and is the same in each run.
func mixedCircle(n, balls, seed int) string {
	signs := []byte(zeros(n))
	x := uint32(seed*5003 + n*61 + balls)
	for range balls {
		x = x*1664525 + 1013904223
		at := int(x>>16) % n
		for signs[at] == '1' {
			at = (at + 1) % n
		}
		signs[at] = '1'
	}
	return string(signs)
}

// someCircles returns the circles on which the promises are tested.
func someCircles() []string {
	return append(shortCircles(11), longCircles()...)
}

// isCircle reports whether a row is a circle.
func isCircle(s string) bool {
	return len(s) <= mostRound && strings.Count(s, "1") < strings.Count(s, "0")
}

// noCircles returns texts that are no circles.
func noCircles() []string {
	return append(noRows(),
		// No box, or not enough empty ones.
		"", "1", "01", "10", "11", "011", "101", "110", "0011", "0110", "0101", "1001", "1111", "01101", "000111", "0101011",
		ones(29)+zeros(29), zeros(30)+ones(30), strings.Repeat("01", 30), strings.Repeat("10", 30),
		ones(30)+zeros(29), zeros(29)+ones(31), ones(59), ones(60),
		// More than 60 signs, as rows may have.
		zeros(61), "1"+zeros(60), zeros(60)+"1", ones(30)+zeros(31), ones(61), zeros(most), "1"+zeros(most-1), ones(most), zeros(256+3),
		// Other signs among enough empty boxes.
		"002", "2000", "0001 ", " 0001", "00-1", "000\n", "000/", ":000", "0x00", "\x00", "\x00\x00\x01", "000\xff", "000\u0661", "00a00", "0030",
		zeros(59)+"2", "2"+zeros(59), zeros(30)+"x"+zeros(29), zeros(60)+"2")
}

// pairedWith returns with which empty box a ball of a circle is paired: the next one in a direction, 1 or -1, that no ball between them needs.
func pairedWith(s string, ball, direction int) int {
	needed := 1
	at := ball
	for needed > 0 {
		at = (at + direction + len(s)) % len(s)
		if s[at] == '1' {
			needed++
		} else {
			needed--
		}
	}
	return at
}

// exchanged returns a circle with each ball exchanged with the empty box with which it is paired in a direction.
func exchanged(s string, direction int) string {
	signs := []byte(s)
	for ball := range s {
		if s[ball] == '1' {
			signs[ball] = '0'
			signs[pairedWith(s, ball, direction)] = '1'
		}
	}
	return string(signs)
}

// ledRound returns the circle behind a turn: a carrier with room for all goes round twice, and its second way begins with the load of the first one's end.
func ledRound(s string) string {
	next, load := []byte(s), 0
	for range 2 {
		for i := range s {
			next[i] = '0'
			if s[i] == '1' {
				load++
			} else if load > 0 {
				load--
				next[i] = '1'
			}
		}
	}
	return string(next)
}

// shapeRound returns the shape of a circle, from texts out of which neighbours are taken, also the last and the first sign.
func shapeRound(s string) []int {
	var sizes []int
	for strings.Contains(s, "1") {
		taken := 0
		if strings.HasSuffix(s, "1") && strings.HasPrefix(s, "0") {
			taken++
			s = s[1 : len(s)-1]
		}
		taken += strings.Count(s, "10")
		s = strings.ReplaceAll(s, "10", "")
		for len(sizes) < taken {
			sizes = append(sizes, 0)
		}
		for k := range taken {
			sizes[k]++
		}
	}
	return sizes
}

// periodOf returns behind how many turns, at most so many, a circle is again as it is, or 0.
func periodOf(s string, atMost int) int {
	next := s
	for n := 1; n <= atMost; n++ {
		next = ledRound(next)
		if next == s {
			return n
		}
	}
	return 0
}

// rotated returns a circle with its first n signs put behind its last one.
func rotated(s string, n int) string {
	twice := s + s
	return twice[n : n+len(s)]
}
