package tests

import (
	"strings"

	"loop.example/boxball/impl"
)

// shortColoured returns all coloured rows of at most n signs, tidy or not, the empty one first.
func shortColoured(n int) []string {
	all := []string{""}
	for i := 0; len(all[i]) < n; i++ {
		for _, sign := range []string{"0", "1", "2", "3"} {
			all = append(all, all[i]+sign)
		}
	}
	return all
}

// longColoured returns coloured rows near BoxesMax signs: with one colour alone, with all colours in turn, and mixed, with many and with few empty boxes.
func longColoured() []string {
	all := longRows()
	for _, n := range []int{30, 59, 60, 61, most - 2, most - 1, most} {
		for _, sign := range []string{"2", "3"} {
			all = append(all, strings.Repeat(sign, n), zeros(n-1)+sign, sign+zeros(n-1))
		}
		all = append(all, strings.Repeat("321", n/3), strings.Repeat("123", n/3), strings.Repeat("0312", n/4))
		for seed := range 8 {
			all = append(all,
				mixedColours(n, seed, "0123"),
				mixedColours(n/2, seed, "123")+zeros(n-n/2),
				mixedColours(n/2, seed, "012")+zeros(n-n/2-1)+"3",
				zeros(n/2)+mixedColours(n-n/2, seed, "0123"),
				mixedColours(n-10, seed, "000001023")+zeros(10))
		}
	}
	return all
}

// mixedColours returns n of some signs in an order that looks irregular and is the same in each run.
func mixedColours(n, seed int, signs string) string {
	row := make([]byte, n)
	x := uint32(seed*6007 + n)
	for i := range row {
		x = x*1664525 + 1013904223
		row[i] = signs[int(x>>16)%len(signs)]
	}
	return string(row)
}

// someColoured returns the coloured rows on which the promises are tested.
func someColoured() []string {
	return append(shortColoured(7), longColoured()...)
}

// noColoured returns texts that are no coloured rows.
func noColoured() []string {
	return []string{
		"4", "5", "9", "a", " ", "-1", "12 ", " 12", "1 2", "12\n", "1,2", "/", ":", "1x", "x1", "01234", "30214",
		"\x00", "\x01", "\x02", "\x03", "\xff", "\x80", "12\x80", "\u0662", "\uff13", "3\u00a0",
		zeros(most) + "0", zeros(most) + "1", zeros(most) + "2", zeros(most) + "3", zeros(most) + "4",
		ones(most + 1),
		strings.Repeat("2", most+1),
		strings.Repeat("3", most+1),
		"1" + zeros(most), "2" + zeros(most), "3" + zeros(most),
		strings.Repeat("0123", 5000),
		zeros(most-1) + "4",
		"4" + zeros(most-1),
	}
}

// plainFor returns a text with a 1 for each sign that is one of some, and a 0 for the other ones.
func plainFor(s, some string) string {
	return strings.Map(func(sign rune) rune {
		if strings.ContainsRune(some, sign) {
			return '1'
		}
		return '0'
	}, s)
}

// alone returns the row of the boxes that have no ball of a colour other than one.
func alone(s, sign string) string {
	return plainFor(strings.Map(func(other rune) rune {
		if strings.ContainsRune("0"+sign, other) {
			return other
		}
		return -1
	}, s), sign)
}

// laidBack returns a coloured row with the boxes of alone filled as a row tells, and with those of other colours as they are.
func laidBack(s, sign, row string) string {
	signs := []byte(s)
	for i := range signs {
		if !strings.ContainsRune("0"+sign, rune(signs[i])) {
			continue
		}
		signs[i] = '0'
		if row != "" {
			if row[0] == '1' {
				signs[i] = sign[0]
			}
			row = row[1:]
		}
	}
	return string(signs)
}

// movedOn returns the tidy text behind a move of a colour, however long: without the boxes of other colours it is a step with the greatest room.
func movedOn(s, sign string) string {
	s += zeros(len(s))
	row, _ := stepped(alone(s, sign), impl.RoomMax)
	return tidied(laidBack(s, sign, row))
}

// movedAway returns the tidy text whose move of a colour is a text, and whether there is one.
func movedAway(s, sign string) (string, bool) {
	row, ok := steppedBack(alone(s, sign), impl.RoomMax)
	if !ok {
		return "", false
	}
	return tidied(laidBack(s, sign, row)), true
}

// colourStepped returns the tidy text behind a coloured step, however long.
func colourStepped(s string) string {
	return movedOn(movedOn(movedOn(s, "1"), "2"), "3")
}

// colourSteppedBack returns the tidy text whose coloured step is a text, and whether there is one.
func colourSteppedBack(s string) (string, bool) {
	ok := true
	for _, sign := range []string{"3", "2", "1"} {
		if ok {
			s, ok = movedAway(s, sign)
		}
	}
	return s, ok
}
