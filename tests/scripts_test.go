package tests

import (
	"fmt"
	"regexp"
	"slices"
	"strconv"
	"strings"

	"loop.example/boxball/impl"
)

// mostScript is the greatest number of bytes of a script.
const mostScript = 600

// The forms of lines, and of what stands behind a space.
var (
	restForm     = regexp.MustCompile(`\A(set|sizes|shift|step|back|energy|period|colours) ([^\n]*)\z`)
	loneForm     = regexp.MustCompile(`\A(turned|show|balls|shape|runs|time|apart|high|rigged)\z`)
	numberForm   = regexp.MustCompile(`\A[0-9]{1,3}\z`)
	sizesForm    = regexp.MustCompile(`\A[1-9]{1,20}\z`)
	rowForm      = regexp.MustCompile(`\A[01]{0,120}\z`)
	colouredForm = regexp.MustCompile(`\A[0-3]{0,120}\z`)
)

// executed returns the output of a script, from the plain simulations of all chapters.
func executed(script string) string {
	if len(script) > mostScript {
		return "too long\n"
	}
	lines := strings.Split(script, "\n")
	row, output := "", ""
	for _, line := range lines[:len(lines)-1] {
		said := "what"
		if form := restForm.FindStringSubmatch(line); form != nil {
			row, said = withRest(row, form[1], form[2])
		} else if loneForm.MatchString(line) {
			row, said = withoutRest(row, line)
		}
		output += said + "\n"
	}
	return output + "row " + shown(row) + "\n"
}

// withRest returns the row behind a word with a rest, and what is said.
func withRest(row, word, rest string) (string, string) {
	n := -1
	if numberForm.MatchString(rest) {
		n, _ = strconv.Atoi(rest)
	}
	room := n >= 1 && n <= impl.RoomMax
	switch word {
	case "set":
		return changed(row, tidied(rest), rowForm.MatchString(rest))
	case "sizes":
		return changed(row, rowOfSizes(digitsOf(rest)), sizesForm.MatchString(rest))
	case "shift":
		return changed(row, tidied(zeros(max(n, 0))+row), n >= 0)
	case "step":
		after, _ := stepped(row, max(n, 1))
		return changed(row, after, room)
	case "back":
		before, ok := steppedBack(row, max(n, 1))
		return changed(row, before, ok && room)
	case "energy":
		return row, toldIf(room, strconv.Itoa(energyOf(row, max(n, 1))))
	case "period":
		ok := rowForm.MatchString(rest) && isCircle(rest)
		if !ok {
			return row, "no"
		}
		return row, strconv.Itoa(periodOf(rest, 5000))
	default:
		after := colourStepped(rest)
		return row, toldIf(colouredForm.MatchString(rest) && len(after) <= most, shown(after))
	}
}

// withoutRest returns the row behind a word alone, and what is said.
func withoutRest(row, word string) (string, string) {
	switch word {
	case "turned":
		return changed(row, tidied(backward(row)), true)
	case "show":
		return row, shown(row)
	case "balls":
		return row, strconv.Itoa(strings.Count(row, "1"))
	case "shape":
		return row, spaced(shapeIn(row))
	case "runs":
		return row, spaced(lengthsOf(row, "0"))
	case "time":
		n, ok := timeOf(row)
		return row, toldIf(ok, strconv.Itoa(n))
	case "apart":
		return row, yesIf(apartIn(row))
	case "high":
		return row, yesIf(isHigh(row))
	default:
		if !isHigh(row) {
			return row, "no"
		}
		return row, spacedParts(riggedIn(row))
	}
}

// changed returns the next row and what is said, if this row is told and not too long.
func changed(row, next string, ok bool) (string, string) {
	if !ok || len(next) > most {
		return row, "no"
	}
	return next, "ok"
}

// toldIf returns what is said of something that may have failed.
func toldIf(ok bool, said string) string {
	if ok {
		return said
	}
	return "no"
}

// yesIf returns what is said of something that may hold.
func yesIf(holds bool) string {
	if holds {
		return "yes"
	}
	return "not"
}

// shown returns how a tidy row is printed.
func shown(row string) string {
	if row == "" {
		return "0"
	}
	return row
}

// spaced returns how a list of numbers is printed.
func spaced(list []int) string {
	return strings.Trim(fmt.Sprint(list), "[]")
}

// spacedParts returns how a list of parts is printed.
func spacedParts(list []impl.Part) string {
	s := ""
	for _, part := range list {
		s += fmt.Sprintf(" %d:%d", part.Size, part.Rig)
	}
	return strings.TrimPrefix(s, " ")
}

// digitsOf returns the numbers of the signs of a text, as far as they are digits.
func digitsOf(s string) []int {
	var digits []int
	for _, sign := range s {
		if sign >= '0' && sign <= '9' {
			digits = append(digits, int(sign-'0'))
		}
	}
	return digits
}

// energyOf returns how often a carrier with a room takes a ball.
func energyOf(row string, room int) int {
	_, loads := stepped(row, room)
	taken := 0
	for i := range row {
		if loads[i+1] > loads[i] {
			taken++
		}
	}
	return taken
}

// wordsAlone are the words without a rest, and wordsWithRest those with one.
var (
	wordsAlone    = []string{"turned", "show", "balls", "shape", "runs", "time", "apart", "high", "rigged"}
	wordsWithRest = []string{"set", "sizes", "shift", "step", "back", "energy", "period", "colours"}
)

// someRests returns rests of all kinds, each of them as told for some words and not for others.
func someRests() []string {
	return append(noRows(),
		"", " ", "  ", "0", "1", "01", "100", "00011", "11001", " 1", "1 ", "1 1", "  1", "1  ", "\t1", "1\t", "1\r",
		"2", "9", "10", "99", "119", "120", "121", "199", "200", "201", "256", "999",
		"000", "001", "007", "020", "00", "0000", "0001", "0200", "1000", "2000", "9999", "4294967297", "18446744073709551617",
		"-0", "-1", "+1", "1.0", "1e2", "0x1", "0b1", "0o1", "1_0", "_1", "x", "1x", "x1", "one", "\uff11", "\u0661", "1\u00a0", "\u00a01",
		"/", ":", "1/", "1:", "9:", ";9", "3", "21", "12", "112", "321", "102", "120304", "123456789", "987654321", "40", "04", "4", "11111111111111111111", "111111111111111111111", "99999", "999999", "99999999999999999999",
		zeros(60), zeros(61), zeros(most), ones(most), ones(59)+zeros(61), ones(60)+zeros(60), ones(61)+zeros(59), zeros(most-1)+"1",
		strings.Repeat("2", 60), strings.Repeat("3", 61), zeros(most-1)+"3", zeros(most-2)+"20", strings.Repeat("321", 40), strings.Repeat("21", 20),
		"0000000011101111100000001101111", "10000011111000000001001", ones(29)+zeros(31), ones(30)+zeros(30))
}

// someLines returns lines that are commands, with all words and rests, and lines that are none.
func someLines() []string {
	lines := []string{
		"", " ", "  ", "\t", "\r", "zzz", "0", "1", "01", "what", "no", "ok", "row", "row 0", "too long", "reset", "settle", "sets 1", "size 1", "colour 1", "colors 1",
		"Show", "SHOW", "sho", "shows", "show\r", "show\t", "show\x00", "\x00", "\xff", "show\xff", "\ufeffshow", "show;balls", "show,", "s", "\u017fhow", "show\u00a0",
		"Set 1", "SET 1", "set\t1", "set=1", "set,1", "set\u00a01", "se t1", "set1", "step200", "sizes\t1", "shift\t1",
	}
	for _, word := range wordsAlone {
		lines = append(lines, word, word+" ", word+"  ", word+" 0", word+" 1", word+" x", word+" "+word, " "+word, word+word)
	}
	for _, word := range wordsWithRest {
		lines = append(lines, word, " "+word, " "+word+" 1", word+word+" 1", word+"1")
		for _, rest := range someRests() {
			// A line with a newline would be two.
			if !strings.Contains(rest, "\n") {
				lines = append(lines, word+" "+rest)
			}
		}
	}
	return lines
}

// someStarts returns beginnings of scripts, of complete lines, behind which the row is of many kinds.
func someStarts() []string {
	starts := []string{"", "\n", "zzz\n", "set 0\n", "set 01\nset x\n", "sizes 21\nshift 3\n", "sizes 321\nturned\nstep 2\n", "sizes 99\nback 1\nshift 200\n"}
	for _, row := range []string{
		"1", "11", "01", "001101", "1101", "11001", "0100", "00110011", "0001011000", ones(60), ones(61), ones(most), zeros(most-1) + "1", zeros(most-2) + "1", "1" + zeros(most-1),
		zeros(60) + ones(60), strings.Repeat("01", 60), strings.Repeat("10", 60), zeros(59) + ones(60), zeros(most-5) + "11011", "11" + zeros(58) + "1", "11" + zeros(59) + "1",
		mixedRow(most, 1), mixedRow(60, 2), mixedRow(30, 3), mixedHighRow(most, 4), mixedHighRow(50, 5),
	} {
		starts = append(starts, "set "+row+"\n")
	}
	return starts
}

// mixedScript returns a script of at most n bytes with lines that look irregularly chosen and are the same in each run.
func mixedScript(lines []string, n, seed int) string {
	script := ""
	x := uint32(seed*4001 + n)
	for {
		x = x*1664525 + 1013904223
		line := lines[int(x>>12)%len(lines)] + "\n"
		if len(script)+len(line) > n {
			return script
		}
		script += line
	}
}

// plainLines returns lines that succeed for many rows.
func plainLines() []string {
	lines := slices.Clone(wordsAlone)
	for _, row := range []string{"", "0", "001101", "1101", "0011001", "11000111", "01011", "0001110011"} {
		lines = append(lines, "set "+row)
	}
	for _, rest := range []string{"1", "2", "3", "4", "200"} {
		lines = append(lines, "step "+rest, "step "+rest, "back "+rest, "energy "+rest, "shift "+rest)
	}
	return append(lines, "sizes 1", "sizes 21", "sizes 3121", "sizes 55", "period 00011", "period 0100101", "colours 112", "colours 0312", "colours 0")
}

// someScripts returns the scripts on which the promises are tested.
func someScripts() []string {
	scripts := []string{"", "\n", "\n\n\n", "show", "set 01", "set 01\nshow", "set 01\nset 001", "show\nset 1", "a", " ", "\nset 1", "set 1\n\nshow\n\n"}
	lines := someLines()
	for _, line := range lines {
		scripts = append(scripts, line, line+"\n", "set 0011\n"+line+"\n", "sizes 12\n"+line)
	}
	for seed := range 300 {
		scripts = append(scripts, mixedScript(lines, mostScript, seed), mixedScript(plainLines(), mostScript, seed), mixedScript(plainLines(), mostScript-10, seed))
	}
	return scripts
}
