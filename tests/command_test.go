package tests

import (
	"fmt"
	"slices"
	"strings"
	"testing"

	"loop.example/boxball/impl"
)

// wantOutput checks the output of a script.
func wantOutput(t *testing.T, script, want string) {
	t.Helper()
	if got := impl.Execute(script); got != want {
		t.Errorf("Execute(%q) returned %q; want %q", script, got, want)
	}
}

// output is what a script says: of each of its lines, and the row behind them.
type output struct {
	script string
	want   []string
	row    string
}

// wantOutputs checks scripts of lines, told without the newline behind the last one.
func wantOutputs(t *testing.T, cases []output) {
	t.Helper()
	for _, c := range cases {
		wantOutput(t, c.script+"\n", strings.Join(append(slices.Clone(c.want), "row "+c.row), "\n")+"\n")
	}
}

// said makes a list of the outputs of lines, which are told with commas between.
func said(outputs string) []string {
	return strings.Split(outputs, ",")
}

func TestMaxScript(t *testing.T) {
	if impl.MaxScript != mostScript {
		t.Errorf("MaxScript is %d", impl.MaxScript)
	}
}

func TestPromise56EmptyScript(t *testing.T) {
	wantOutput(t, "", "row 0\n")
}

func TestPromise56Outputs(t *testing.T) {
	for _, script := range someScripts() {
		got := impl.Execute(script)
		if want := executed(script); got != want {
			t.Errorf("Execute(%q) returned %q; want %q", script, got, want)
		}
		if got == "" || !strings.HasSuffix(got, "\n") {
			t.Errorf("Execute(%q) returned %q", script, got)
		}
	}
}

func TestPromise56UnendedLine(t *testing.T) {
	for _, script := range []string{
		"show", "set 01", "zzz", " ", "set 2", "\r", "\x00", "\xff", strings.Repeat("x", mostScript), strings.Repeat("\u00e9", mostScript/2), strings.Repeat("show ", mostScript/5),
	} {
		wantOutput(t, script, "row 0\n")
	}
	wantOutput(t, "set 01\nset 001", "ok\nrow 01\n")
	wantOutput(t, "set 01\nshift 1\nshow", "ok\nok\nrow 001\n")
	for _, script := range someScripts() {
		ended := script[:strings.LastIndex(script, "\n")+1]
		for _, rest := range []string{"", "show", "set 111", "turned", "zzz", "set x", " ", "\r", "sizes 9"} {
			if len(ended+rest) <= mostScript && len(script) <= mostScript {
				wantOutput(t, ended+rest, impl.Execute(script))
			}
		}
	}
}

func TestPromise56Limits(t *testing.T) {
	for _, line := range []string{"\n", "show\n", "set 1\n", "zzz\n", "set 01\nstep 1\nshow\n"} {
		full := strings.Repeat(line, mostScript/len(line))
		full = strings.Repeat("\n", mostScript-len(full)) + full
		got := impl.Execute(full)
		// Each line has one output, and the row is told behind them.
		if len(full) != mostScript || got != executed(full) || strings.Count(got, "\n") != strings.Count(full, "\n")+1 {
			t.Errorf("Execute of %d bytes, %q, returned %q", len(full), full, got)
		}
		for _, more := range []string{"\n", " ", "x", "\x00", "show\n", strings.Repeat("show\n", 1000)} {
			wantOutput(t, full+more, "too long\n")
			wantOutput(t, more+full, "too long\n")
		}
	}
	// The bytes are counted, also those of a last line that is ignored, and not the signs.
	wantOutput(t, strings.Repeat("x", mostScript+1), "too long\n")
	wantOutput(t, "show\n"+strings.Repeat(" ", mostScript-5), "0\nrow 0\n")
	wantOutput(t, "show\n"+strings.Repeat(" ", mostScript-4), "too long\n")
	wantOutput(t, strings.Repeat("\u00e9", mostScript/2)+"\n", "too long\n")
	wantOutput(t, strings.Repeat("\u00e9", mostScript/2-1)+"x\n", "what\nrow 0\n")
	wantOutput(t, strings.Repeat("\u20ac", mostScript/2), "too long\n")
	wantOutput(t, strings.Repeat("\xff", mostScript-1)+"\n", "what\nrow 0\n")
	wantOutput(t, strings.Repeat("\xff", mostScript)+"\n", "too long\n")
}

func TestPromise56NothingIsKept(t *testing.T) {
	first := "set 0011\nshow\n"
	for range 3 {
		wantOutput(t, first, "ok\n0011\nrow 0011\n")
		wantOutput(t, "show\n", "0\nrow 0\n")
		wantOutput(t, "", "row 0\n")
	}
}

// startsWithRoom returns scripts of complete lines with room for some bytes.
func startsWithRoom(bytes int) []string {
	scripts := []string{strings.Repeat("\n", mostScript-bytes), strings.Repeat("set 1\n", 98) + "\n\n", strings.Repeat("shift 1\n", 73)}
	for _, script := range append(someStarts(), someScripts()...) {
		if len(script) <= mostScript-bytes && (script == "" || strings.HasSuffix(script, "\n")) {
			scripts = append(scripts, script)
		}
	}
	return scripts
}

// cutLast returns the output ahead of the last line, and the last line.
func cutLast(output string) (string, string) {
	at := strings.LastIndex(strings.TrimSuffix(output, "\n"), "\n") + 1
	return output[:at], output[at:]
}

func TestPromise57WhatAndNo(t *testing.T) {
	for _, script := range startsWithRoom(10) {
		ahead, last := cutLast(impl.Execute(script))
		wantOutput(t, script+"zzz\nset x\n", ahead+"what\nno\n"+last)
	}
}

func TestPromise58ShowTwice(t *testing.T) {
	for _, script := range startsWithRoom(10) {
		ahead, last := cutLast(impl.Execute(script))
		row := strings.TrimPrefix(last, "row ")
		wantOutput(t, script+"show\nshow\n", ahead+row+row+last)
	}
}

func TestPromise59Step(t *testing.T) {
	for _, s := range append(shortRows(7), longRows()...) {
		for _, room := range someRooms {
			taken, takenOK := impl.StepTaken(s, room)
			after, ok := impl.StepOf(s, room)
			script := fmt.Sprintf("set %s\nenergy %d\nstep %d\nshow\n", s, room, room)
			if !ok {
				wantOutput(t, script, fmt.Sprintf("ok\n%d\nno\n%s\nrow %s\n", taken, shown(tidied(s)), shown(tidied(s))))
				continue
			}
			simulated, _ := stepped(s, room)
			wantText(t, fmt.Sprintf("StepOf(%q, %d)", s, room), after, takenOK, simulated, true)
			wantOutput(t, script, fmt.Sprintf("ok\n%d\nok\n%s\nrow %s\n", taken, shown(after), shown(after)))
			wantOutput(t, fmt.Sprintf("set %s\nstep %03d\nback %03d\n", s, room, room), fmt.Sprintf("ok\nok\nok\nrow %s\n", shown(tidied(s))))
		}
	}
}

func TestPromise60High(t *testing.T) {
	for _, s := range highRows() {
		wantOutput(t, "set "+s+"\nhigh\nballs\n", fmt.Sprintf("ok\nyes\n%d\nrow %s\n", strings.Count(s, "1"), shown(s)))
	}
	for _, s := range someRows() {
		want := yesIf(isHigh(tidied(s)))
		wantOutput(t, "set "+s+"\nhigh\nballs\n", fmt.Sprintf("ok\n%s\n%d\nrow %s\n", want, strings.Count(s, "1"), shown(tidied(s))))
	}
}

func TestLines(t *testing.T) {
	for _, line := range someLines() {
		for _, start := range someStarts() {
			script := start + line + "\nshow\n"
			wantOutput(t, script, executed(script))
		}
	}
}

func TestSetOfCases(t *testing.T) {
	wantOutputs(t, []output{
		{"set 1", said("ok"), "1"},
		{"set 001101", said("ok"), "001101"},
		{"set 0100\nshow", said("ok,01"), "01"},
		// The rest may be empty, as a row may, but the space may not be missing.
		{"set 1\nset ", said("ok,ok"), "0"},
		{"set 1\nset", said("ok,what"), "1"},
		{"set 0\nshow", said("ok,0"), "0"},
		{"set 1\nset 0000\nshow\nballs", said("ok,ok,0,0"), "0"},
		{"set 1\nset " + zeros(most), said("ok,ok"), "0"},
		{"set " + ones(most), said("ok"), ones(most)},
		{"set 1" + zeros(most-1), said("ok"), "1"},
		{"set 1\nset 01\nset 11", said("ok,ok,ok"), "11"},
		// What is no row changes nothing.
		{"set 01\nset 2", said("ok,no"), "01"},
		{"set 01\nset 0 1", said("ok,no"), "01"},
		{"set 01\nset  1", said("ok,no"), "01"},
		{"set 01\nset 1 ", said("ok,no"), "01"},
		{"set 01\nset 1 1", said("ok,no"), "01"},
		{"set 01\nset  ", said("ok,no"), "01"},
		{"set 01\nset 1\r", said("ok,no"), "01"},
		{"set 01\nset 1\t", said("ok,no"), "01"},
		{"set 01\nset -1", said("ok,no"), "01"},
		{"set 01\nset 1\x00", said("ok,no"), "01"},
		{"set 01\nset " + zeros(most+1), said("ok,no"), "01"},
		{"set 01\nset 1" + zeros(most), said("ok,no"), "01"},
		{"set 01\nset " + ones(most+1), said("ok,no"), "01"},
	})
}

func TestSizesOfCases(t *testing.T) {
	wantOutputs(t, []output{
		{"sizes 1", said("ok"), "1"},
		{"sizes 9", said("ok"), ones(9)},
		{"sizes 21", said("ok"), "1011"},
		{"sizes 12", said("ok"), "1011"},
		{"sizes 3121", said("ok"), "10101100111"},
		{"sizes 22", said("ok"), "110011"},
		{"sizes 19", said("ok"), "10" + ones(9)},
		// As many digits as sizes may be, and one more.
		{"sizes " + ones(20), said("ok"), strings.Repeat("10", 19) + "1"},
		{"sizes " + ones(21), said("no"), "0"},
		{"sizes " + ones(200), said("no"), "0"},
		// A row of exactly BoxesMax signs, one that is shorter, and longer ones.
		{"sizes 99999999", said("no"), "0"},
		{"sizes 9999999", said("ok"), strings.Repeat(ones(9)+zeros(9), 6) + ones(9)},
		{"sizes 63333333333333333333", said("ok"), strings.Repeat("111000", 19) + ones(6)},
		{"sizes 73333333333333333333", said("no"), "0"},
		// Other rests change nothing.
		{"set 01\nsizes ", said("ok,no"), "01"},
		{"set 01\nsizes", said("ok,what"), "01"},
		{"set 01\nsizes 0", said("ok,no"), "01"},
		{"set 01\nsizes 10", said("ok,no"), "01"},
		{"set 01\nsizes 01", said("ok,no"), "01"},
		{"set 01\nsizes 201", said("ok,no"), "01"},
		{"set 01\nsizes 2 1", said("ok,no"), "01"},
		{"set 01\nsizes  1", said("ok,no"), "01"},
		{"set 01\nsizes 1 ", said("ok,no"), "01"},
		{"set 01\nsizes  ", said("ok,no"), "01"},
		{"set 01\nsizes 2,1", said("ok,no"), "01"},
		{"set 01\nsizes :", said("ok,no"), "01"},
		{"set 01\nsizes 1:", said("ok,no"), "01"},
		{"set 01\nsizes /", said("ok,no"), "01"},
		{"set 01\nsizes A", said("ok,no"), "01"},
		{"set 01\nsizes -1", said("ok,no"), "01"},
		{"set 01\nsizes +1", said("ok,no"), "01"},
		{"set 01\nsizes 1\r", said("ok,no"), "01"},
		{"set 01\nsizes \uff11", said("ok,no"), "01"},
		{"set 01\nsizes 1\xff", said("ok,no"), "01"},
	})
}

func TestShiftOfCases(t *testing.T) {
	wantOutputs(t, []output{
		{"set 01\nshift 0", said("ok,ok"), "01"},
		{"set 01\nshift 1", said("ok,ok"), "001"},
		{"set 01\nshift 03", said("ok,ok"), "00001"},
		{"set 01\nshift 003", said("ok,ok"), "00001"},
		{"set 01\nshift 000", said("ok,ok"), "01"},
		{"set 01\nshift 0003", said("ok,no"), "01"},
		{"set 01\nshift 0000", said("ok,no"), "01"},
		{"set 1\nshift 10", said("ok,ok"), zeros(10) + "1"},
		// Exactly BoxesMax signs, and one too many.
		{"set 1\nshift 119\nshift 0", said("ok,ok,ok"), zeros(119) + "1"},
		{"set 1\nshift 119\nshift 1", said("ok,ok,no"), zeros(119) + "1"},
		{"set 1\nshift 120", said("ok,no"), "1"},
		{"set 1\nshift 999", said("ok,no"), "1"},
		{"set " + ones(most) + "\nshift 0\nshift 1", said("ok,ok,no"), ones(most)},
		{"set " + ones(60) + zeros(60) + "\nshift 60\nshift 1", said("ok,ok,no"), zeros(60) + ones(60)},
		// Without a ball, no number of three digits is too great.
		{"shift 0\nshift 1\nshift 120\nshift 121\nshift 999\nshift 1000", said("ok,ok,ok,ok,ok,no"), "0"},
		// Other rests change nothing.
		{"set 01\nshift ", said("ok,no"), "01"},
		{"set 01\nshift", said("ok,what"), "01"},
		{"set 01\nshift x", said("ok,no"), "01"},
		{"set 01\nshift -1", said("ok,no"), "01"},
		{"set 01\nshift -0", said("ok,no"), "01"},
		{"set 01\nshift +1", said("ok,no"), "01"},
		{"set 01\nshift  1", said("ok,no"), "01"},
		{"set 01\nshift 1 ", said("ok,no"), "01"},
		{"set 01\nshift 1 1", said("ok,no"), "01"},
		{"set 01\nshift 1\r", said("ok,no"), "01"},
		{"set 01\nshift 1_0", said("ok,no"), "01"},
		{"set 01\nshift 0x1", said("ok,no"), "01"},
		{"set 01\nshift 1.0", said("ok,no"), "01"},
		{"set 01\nshift \u0661", said("ok,no"), "01"},
		{"set 01\nshift 18446744073709551617", said("ok,no"), "01"},
		{"shift x\nshift \nshift -1", said("no,no,no"), "0"},
	})
}

func TestTurnedOfCases(t *testing.T) {
	wantOutputs(t, []output{
		{"turned", said("ok"), "0"},
		{"set 1101\nturned", said("ok,ok"), "1011"},
		{"set 0011\nturned\nshow\nturned", said("ok,ok,11,ok"), "11"},
		{"set " + zeros(most-1) + "1\nturned", said("ok,ok"), "1"},
		{"set 0011\nturned ", said("ok,what"), "0011"},
		{"set 0011\nturned 1", said("ok,what"), "0011"},
	})
}

func TestStepAndBackOfCases(t *testing.T) {
	wantOutputs(t, []output{
		{"set 11001\nstep 200", said("ok,ok"), "001101"},
		{"set 111\nstep 1", said("ok,ok"), "0111"},
		{"set 111\nstep 01\nstep 002", said("ok,ok,ok"), "000111"},
		{"set 0011\nback 200", said("ok,ok"), "11"},
		{"set 0011\nback 1\nback 1\nback 1", said("ok,ok,ok,no"), "11"},
		// Rooms of 0, the least one, the greatest one, and greater ones.
		{"set 0011\nstep 0", said("ok,no"), "0011"},
		{"set 0011\nstep 000", said("ok,no"), "0011"},
		{"set 0011\nstep 201", said("ok,no"), "0011"},
		{"set 0011\nstep 999", said("ok,no"), "0011"},
		{"set 0011\nstep 0001", said("ok,no"), "0011"},
		{"set 0011\nstep 0200", said("ok,no"), "0011"},
		{"set 0011\nback 0", said("ok,no"), "0011"},
		{"set 0011\nback 201", said("ok,no"), "0011"},
		{"set 0011\nback 0001", said("ok,no"), "0011"},
		{"step 1\nstep 200\nstep 0\nstep 201", said("ok,ok,no,no"), "0"},
		{"back 1\nback 200\nback 0\nback 201", said("ok,ok,no,no"), "0"},
		// Results of exactly BoxesMax signs, and longer ones.
		{"set " + ones(60) + "\nstep 200", said("ok,ok"), zeros(60) + ones(60)},
		{"set " + ones(61) + "\nstep 200", said("ok,no"), ones(61)},
		{"set " + ones(most) + "\nstep 1", said("ok,no"), ones(most)},
		{"set " + zeros(most-2) + "1\nstep 1\nstep 1", said("ok,ok,no"), zeros(most-1) + "1"},
		// Nothing goes back over the box 0.
		{"set 11\nback 200", said("ok,no"), "11"},
		{"set 1\nback 1", said("ok,no"), "1"},
		{"set " + ones(most) + "\nback 200", said("ok,no"), ones(most)},
		// Other rests change nothing.
		{"set 0011\nstep \nback ", said("ok,no,no"), "0011"},
		{"set 0011\nstep\nback", said("ok,what,what"), "0011"},
		{"set 0011\nstep x\nback x", said("ok,no,no"), "0011"},
		{"set 0011\nstep -1\nback -1", said("ok,no,no"), "0011"},
		{"set 0011\nstep +1\nback +1", said("ok,no,no"), "0011"},
		{"set 0011\nstep  1\nback  1", said("ok,no,no"), "0011"},
		{"set 0011\nstep 1 \nback 1 ", said("ok,no,no"), "0011"},
		{"set 0011\nstep 1 1\nback 1 1", said("ok,no,no"), "0011"},
	})
}

func TestShowAndBallsOfCases(t *testing.T) {
	wantOutputs(t, []output{
		{"show\nballs", said("0,0"), "0"},
		{"set 0110\nshow\nballs", said("ok,011,2"), "011"},
		{"set " + ones(most) + "\nballs\nshow", said("ok,120," + ones(most)), ones(most)},
		{"set 1\nshow ", said("ok,what"), "1"},
		{"set 1\nshow 0", said("ok,what"), "1"},
		{"set 1\nballs ", said("ok,what"), "1"},
		{"set 1\nballs 1", said("ok,what"), "1"},
	})
}

func TestShapesOfCases(t *testing.T) {
	wantOutputs(t, []output{
		// Without a ball, a list has no numbers.
		{"shape\nruns\ntime\napart", said(",,0,yes"), "0"},
		{"set 1101\nshape\nruns\ntime\napart", said("ok,2 1,2 1,1,not"), "1101"},
		{"set 11011\nshape\nruns\ntime\napart", said("ok,3 1,2 2,1,not"), "11011"},
		{"set 10101100111\nshape\nruns\ntime\napart", said("ok,3 2 1 1,1 1 2 3,0,yes"), "10101100111"},
		{"set " + ones(most) + "\nshape\nruns\ntime\napart", said("ok,120,120,0,yes"), ones(most)},
		{"set 11001\ntime", said("ok,2"), "11001"},
		{"set 11" + zeros(58) + "1\ntime", said("ok,58"), "11" + zeros(58) + "1"},
		// The row is too long before it is apart.
		{"set 11" + zeros(59) + "1\ntime\nshow", said("ok,no,11" + zeros(59) + "1"), "11" + zeros(59) + "1"},
		{"set " + zeros(most-4) + "1101\ntime", said("ok,no"), zeros(most-4) + "1101"},
		{"shape \nruns \ntime \napart ", said("what,what,what,what"), "0"},
		{"shape 1\nruns 1\ntime 1\napart 1", said("what,what,what,what"), "0"},
	})
}

func TestHighAndRiggedOfCases(t *testing.T) {
	wantOutputs(t, []output{
		{"high\nrigged", said("yes,"), "0"},
		{"set 0\nhigh\nrigged", said("ok,yes,"), "0"},
		{"set 01\nhigh\nrigged", said("ok,yes,1:0"), "01"},
		{"set 0100\nhigh\nrigged", said("ok,yes,1:0"), "01"},
		{"set 001101\nhigh\nrigged", said("ok,yes,2:0 1:2"), "001101"},
		{"set 00001011\nhigh\nrigged", said("ok,yes,2:2 1:3"), "00001011"},
		{"set " + zeros(60) + ones(60) + "\nhigh\nrigged", said("ok,yes,60:0"), zeros(60) + ones(60)},
		{"set " + zeros(most-1) + "1\nhigh\nrigged", said("ok,yes,1:118"), zeros(most-1) + "1"},
		// A row that is not high has no rigged partition.
		{"set 1\nhigh\nrigged", said("ok,not,no"), "1"},
		{"set 011\nhigh\nrigged", said("ok,not,no"), "011"},
		{"set 01100\nhigh\nrigged\nshow", said("ok,not,no,011"), "011"},
		{"high \nrigged ", said("what,what"), "0"},
		{"high 01\nrigged 01", said("what,what"), "0"},
	})
}

func TestEnergyOfCases(t *testing.T) {
	wantOutputs(t, []output{
		{"energy 1\nenergy 200", said("0,0"), "0"},
		{"set 1101\nenergy 1\nenergy 2\nenergy 200", said("ok,2,3,3"), "1101"},
		{"set 1101\nenergy 01\nenergy 001\nenergy 0001", said("ok,2,2,no"), "1101"},
		{"set " + ones(most) + "\nenergy 1\nenergy 99\nenergy 119\nenergy 120\nenergy 200", said("ok,1,99,119,120,120"), ones(most)},
		{"set 11\nenergy 0\nenergy 000\nenergy 201\nenergy 999", said("ok,no,no,no,no"), "11"},
		{"set 11\nenergy \nenergy x\nenergy -1\nenergy +1\nenergy  1\nenergy 1 \nenergy 1 1", said("ok,no,no,no,no,no,no,no"), "11"},
		{"set 11\nenergy", said("ok,what"), "11"},
	})
}

func TestPeriodOfCases(t *testing.T) {
	wantOutputs(t, []output{
		{"period 0\nperiod 00\nperiod 010\nperiod 100", said("1,1,3,3"), "0"},
		{"set 11\nperiod 00011", said("ok,5"), "11"},
		{"period 1" + zeros(59) + "\nperiod 1" + zeros(60), said("60,no"), "0"},
		{"period 0000000011101111100000001101111", said("4991"), "0"},
		// None is found within 5000 turns.
		{"period 10000011111000000001001", said("0"), "0"},
		// What is no circle: no sign, not enough empty boxes, other signs.
		{"period \nperiod 1\nperiod 01\nperiod 11\nperiod 0011\nperiod 2\nperiod 0002", said("no,no,no,no,no,no,no"), "0"},
		{"period  010\nperiod 010 \nperiod 0 10\nperiod  ", said("no,no,no,no"), "0"},
		{"set 010\nperiod", said("ok,what"), "01"},
	})
}

func TestColoursOfCases(t *testing.T) {
	wantOutputs(t, []output{
		{"colours 21\ncolours 112\ncolours 1\ncolours 3", said("021,000112,01,03"), "0"},
		{"set 11\ncolours 112", said("ok,000112"), "11"},
		// Coloured rows without balls.
		{"colours \ncolours 0\ncolours 000\ncolours " + zeros(most), said("0,0,0,0"), "0"},
		{"colours " + zeros(most+1), said("no"), "0"},
		// Results of exactly BoxesMax signs, and longer ones.
		{"colours " + zeros(most-2) + "3\ncolours " + zeros(most-2) + "20", said(zeros(most-1) + "3," + zeros(most-1) + "2"), "0"},
		{"colours " + zeros(most-1) + "1\ncolours " + zeros(most-1) + "3", said("no,no"), "0"},
		{"colours " + ones(60) + "\ncolours " + ones(61), said(zeros(60) + ones(60) + ",no"), "0"},
		// Other signs.
		{"colours 4\ncolours 123x\ncolours -1\ncolours /\ncolours :", said("no,no,no,no,no"), "0"},
		{"colours  112\ncolours 112 \ncolours 1 2\ncolours  ", said("no,no,no,no"), "0"},
		{"set 010\ncolours", said("ok,what"), "01"},
	})
}

func TestOtherLinesOfCases(t *testing.T) {
	wantOutputs(t, []output{
		{"", said("what"), "0"},
		{"\n\n", said("what,what,what"), "0"},
		{"set 1\n\nshow\n", said("ok,what,1,what"), "1"},
		{" \n  \n\t\n\r", said("what,what,what,what"), "0"},
		{" show\n set 1\nSet 1\nSHOW\nshow\r\nshow\t", said("what,what,what,what,what,what"), "0"},
		{"zzz\nzzz 1\nrow\nrow 1\nok\nno\nwhat\n0\n1", said("what,what,what,what,what,what,what,what,what"), "0"},
		{"set1\nset\t1\nset\u00a01\nshows\nsho\nsizes1", said("what,what,what,what,what,what"), "0"},
		{"\x00\n\xff\nshow\x00\n\ufeffshow", said("what,what,what,what"), "0"},
	})
}

func TestEachWordInOneScript(t *testing.T) {
	wantOutputs(t, []output{
		{
			strings.Join([]string{
				"set 0011010", "show", "balls", "shape", "runs", "time", "apart", "high", "energy 2", "rigged", "step 2", "back 2", "turned", "apart", "shift 4",
				"step 1", "show", "period 00110", "colours 3201", "sizes 3112", "shape", "nothing", "set 2",
			}, "\n"),
			said("ok,001101,3,2 1,2 1,1,not,yes,3,2:0 1:2,ok,ok,ok,yes,ok,ok,000001011,5,03201,ok,3 2 1 1,what,no"),
			"10101100111",
		},
	})
}
