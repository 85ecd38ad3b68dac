package tests

import (
	"fmt"
	"math"
	"runtime"
	"slices"
	"strings"
	"testing"

	"loop.example/boxball/impl"
)

// noWaves returns numbers that are those of no wave: each start, each list and each number of a list out of its range, alone.
func noWaves() []wave {
	all := []wave{
		// No runs.
		{0, nil, nil}, {0, []int{}, []int{}}, {3, nil, []int{1}}, {most, nil, nil},
		// Gaps that are not one fewer than the runs.
		{0, []int{1}, []int{1}}, {0, []int{1}, []int{0}}, {0, []int{1}, []int{1, 1}},
		{0, []int{1, 2}, nil}, {0, []int{1, 2}, []int{}}, {0, []int{1, 2}, []int{1, 1}}, {0, []int{1, 2}, []int{1, 1, 1}},
		{1, []int{3, 2, 1}, []int{1}}, {1, []int{3, 2, 1}, []int{1, 2, 3}}, {1, many(60, 1), many(58, 1)}, {1, many(60, 1), many(60, 1)},
		{1, many(59, 1), many(59, 1)}, {1, many(2, 1), many(257, 1)}, {1, many(60, 1), nil},
		// More than 60 runs.
		{0, many(61, 1), many(60, 1)}, {0, many(61, 1), many(59, 1)}, {0, many(61, 1), many(61, 1)}, {0, many(62, 2), many(61, 1)},
		{0, many(120, 1), many(119, 1)}, {0, many(256+2, 1), many(256+1, 1)}, {0, many(5000, 1), many(4999, 1)}, {0, many(61, 1), nil},
	}
	for _, start := range []int{-1, -2, -most, math.MinInt, most + 1, most + 2, 200, 256, math.MaxInt32, math.MaxInt} {
		all = append(all, wave{start, []int{1}, nil}, wave{start, []int{2, 1}, []int{1}}, wave{start, many(60, 1), many(59, 1)})
	}
	for _, bad := range []int{0, -1, -2, -most, math.MinInt, most + 1, most + 2, 256 + 1, math.MaxInt32, math.MaxInt} {
		all = append(all,
			wave{0, []int{bad}, nil},
			wave{most, []int{bad}, nil},
			wave{0, []int{bad, bad}, []int{bad}},
			wave{0, append(many(59, 1), bad), many(59, 1)},
			wave{0, many(60, 1), append(many(58, 1), bad)},
			wave{0, many(60, 1), append([]int{bad}, many(58, 1)...)})
		for i := range 3 {
			w := wave{2, []int{1, 2, 3}, []int{3, 1}}
			w.runs[i] = bad
			all = append(all, w)
			if i < 2 {
				w = wave{2, []int{1, 2, 3}, []int{3, 1}}
				w.gaps[i] = bad
				all = append(all, w)
			}
		}
	}
	return all
}

// waveRow calls WaveRow.
func waveRow(w wave) (string, bool) {
	return impl.WaveRow(w.start, w.runs, w.gaps)
}

// waveNext calls WaveNext.
func waveNext(w wave) (wave, bool) {
	start, runs, gaps, ok := impl.WaveNext(w.start, w.runs, w.gaps)
	return wave{start, runs, gaps}, ok
}

// waveOf calls WaveOf.
func waveOf(s string) (wave, bool) {
	start, runs, gaps, ok := impl.WaveOf(s)
	return wave{start, runs, gaps}, ok
}

func TestNoWaveFails(t *testing.T) {
	for _, w := range noWaves() {
		if impl.WaveIn(w.start, w.runs, w.gaps) {
			t.Errorf("%s holds", w.call("WaveIn"))
		}
		s, ok := waveRow(w)
		wantText(t, w.call("WaveRow"), s, ok, "", false)
		next, ok := waveNext(w)
		wantWave(t, w.call("WaveNext"), next, ok, wave{}, false)
		n, ok := impl.WaveSum(w.start, w.runs, w.gaps)
		wantNumber(t, w.call("WaveSum"), n, ok, 0, false)
	}
}

func TestWaveOfNoRowFails(t *testing.T) {
	for _, s := range noRows() {
		w, ok := waveOf(s)
		wantWave(t, fmt.Sprintf("WaveOf(%q)", s), w, ok, wave{}, false)
		made, ok := impl.WaveSigns(s)
		wantText(t, fmt.Sprintf("WaveSigns(%q)", s), made, ok, "", false)
	}
}

func TestPromise50In(t *testing.T) {
	for _, w := range someWaves() {
		if !impl.WaveIn(w.start, w.runs, w.gaps) {
			t.Errorf("%s does not hold", w.call("WaveIn"))
		}
		if len(w.runs) != len(w.gaps)+1 {
			t.Errorf("%s holds", w.call("WaveIn"))
		}
		n, ok := impl.WaveSum(w.start, w.runs, w.gaps)
		if !ok || n < len(w.runs) {
			t.Errorf("%s returned %d, %v", w.call("WaveSum"), n, ok)
		}
	}
}

func TestPromise50InOfAnyNumbers(t *testing.T) {
	numbers := []int{-1, 0, 1, 2, most - 1, most, most + 1}
	for _, start := range numbers {
		for _, first := range numbers {
			for _, gap := range numbers {
				for _, last := range numbers {
					for _, w := range []wave{
						{start, []int{first}, nil},
						{start, []int{first}, []int{gap}},
						{start, []int{first, last}, []int{gap}},
						{start, []int{first, last}, nil},
						{start, []int{first, 1, last}, []int{1, gap}},
						{start, []int{1, first, last}, []int{gap, 1}},
					} {
						if got := impl.WaveIn(w.start, w.runs, w.gaps); got != w.isWave() {
							t.Errorf("%s returned %v", w.call("WaveIn"), got)
						}
					}
				}
			}
		}
	}
}

func TestPromise50InOfCases(t *testing.T) {
	for _, c := range []struct {
		w    wave
		want bool
	}{
		{wave{0, []int{1}, nil}, true},
		{wave{0, []int{1}, []int{}}, true},
		{wave{most, []int{1}, nil}, true},
		{wave{most, []int{most}, nil}, true},
		{wave{most + 1, []int{1}, nil}, false},
		{wave{-1, []int{1}, nil}, false},
		{wave{0, []int{most, most}, []int{most}}, true},
		{wave{0, []int{most, most + 1}, []int{most}}, false},
		{wave{0, []int{most, most}, []int{most + 1}}, false},
		{wave{0, []int{1, 0}, []int{1}}, false},
		{wave{0, []int{1, 1}, []int{0}}, false},
		{wave{most, many(60, most), many(59, most)}, true},
		{wave{0, many(60, 1), many(59, 1)}, true},
		{wave{0, many(61, 1), many(60, 1)}, false},
		{wave{0, nil, nil}, false},
		{wave{0, nil, []int{}}, false},
	} {
		if got := impl.WaveIn(c.w.start, c.w.runs, c.w.gaps); got != c.want {
			t.Errorf("%s returned %v", c.w.call("WaveIn"), got)
		}
	}
}

func TestPromise51Of(t *testing.T) {
	for _, s := range someRows() {
		call := fmt.Sprintf("WaveOf(%q)", s)
		w, ok := waveOf(s)
		if !strings.Contains(s, "1") {
			wantWave(t, call, w, ok, wave{}, false)
			continue
		}
		wantWave(t, call, w, ok, waveIn(s), true)
		row, ok := waveRow(w)
		wantText(t, "WaveRow of "+call, row, ok, tidied(s), true)
		runs, ok := impl.ShapeRuns(s)
		wantList(t, fmt.Sprintf("ShapeRuns(%q)", s), runs, ok, w.runs, true)
	}
}

func TestPromise51OfCases(t *testing.T) {
	for _, c := range []struct {
		s    string
		want wave
	}{
		{"1", wave{0, []int{1}, nil}},
		{"100", wave{0, []int{1}, nil}},
		{"001", wave{2, []int{1}, nil}},
		{"0011100", wave{2, []int{3}, nil}},
		{"01101", wave{1, []int{2, 1}, []int{1}}},
		{"1101000", wave{0, []int{2, 1}, []int{1}}},
		{"11001000111", wave{0, []int{2, 1, 3}, []int{2, 3}}},
		{ones(most), wave{0, []int{most}, nil}},
		{ones(most-1) + "0", wave{0, []int{most - 1}, nil}},
		{zeros(most-1) + "1", wave{most - 1, []int{1}, nil}},
		{"1" + zeros(most-2) + "1", wave{0, []int{1, 1}, []int{most - 2}}},
		{strings.Repeat("10", 60), wave{0, many(60, 1), many(59, 1)}},
		{strings.Repeat("01", 60), wave{1, many(60, 1), many(59, 1)}},
	} {
		w, ok := waveOf(c.s)
		wantWave(t, fmt.Sprintf("WaveOf(%q)", c.s), w, ok, c.want, true)
	}
	for _, s := range []string{"", "0", "00", zeros(most - 1), zeros(most)} {
		w, ok := waveOf(s)
		wantWave(t, fmt.Sprintf("WaveOf(%q)", s), w, ok, wave{}, false)
	}
}

func TestPromise52Row(t *testing.T) {
	for _, w := range someWaves() {
		call := w.call("WaveRow")
		s, ok := waveRow(w)
		if len(w.row()) > most {
			wantText(t, call, s, ok, "", false)
			continue
		}
		wantText(t, call, s, ok, w.row(), true)
		again, ok := waveOf(s)
		wantWave(t, "WaveOf of "+call, again, ok, w, true)
	}
}

func TestPromise52RowOfCases(t *testing.T) {
	for _, c := range []struct {
		w    wave
		want string
		ok   bool
	}{
		{wave{0, []int{1}, nil}, "1", true},
		{wave{0, []int{1}, []int{}}, "1", true},
		{wave{2, []int{3}, nil}, "00111", true},
		{wave{1, []int{2, 1}, []int{1}}, "01101", true},
		{wave{0, []int{2, 1, 3}, []int{2, 3}}, "11001000111", true},
		// Exactly BoxesMax signs, and one too many.
		{wave{0, []int{most}, nil}, ones(most), true},
		{wave{1, []int{most - 1}, nil}, "0" + ones(most-1), true},
		{wave{1, []int{most}, nil}, "", false},
		{wave{most - 1, []int{1}, nil}, zeros(most-1) + "1", true},
		{wave{most - 1, []int{2}, nil}, "", false},
		{wave{most, []int{1}, nil}, "", false},
		{wave{0, []int{1, 1}, []int{most - 2}}, "1" + zeros(most-2) + "1", true},
		{wave{0, []int{1, 1}, []int{most - 1}}, "", false},
		{wave{1, []int{1, 1}, []int{most - 2}}, "", false},
		{wave{0, []int{2, 1}, []int{most - 2}}, "", false},
		{wave{0, []int{1, 2}, []int{most - 2}}, "", false},
		{wave{0, many(60, 1), many(59, 1)}, strings.Repeat("10", 59) + "1", true},
		{wave{1, many(60, 1), many(59, 1)}, strings.Repeat("01", 60), true},
		{wave{2, many(60, 1), many(59, 1)}, "", false},
		{wave{0, many(40, 2), many(39, 1)}, strings.Repeat("110", 39) + "11", true},
		{wave{most, many(60, most), many(59, most)}, "", false},
	} {
		s, ok := waveRow(c.w)
		wantText(t, c.w.call("WaveRow"), s, ok, c.want, c.ok)
	}
}

func TestPromise53Next(t *testing.T) {
	for _, w := range someWaves() {
		call := w.call("WaveNext")
		want := w.next()
		wantWave(t, "against the sums, "+call, w.nextBySums(), true, want, true)
		got, ok := waveNext(w)
		if !want.isWave() {
			wantWave(t, call, got, ok, wave{}, false)
			continue
		}
		wantWave(t, call, got, ok, want, true)
		if len(got.runs) != len(w.runs) || sum(got.runs) != sum(w.runs) {
			t.Errorf("%s returned %v", call, got)
		}
		row, rowOK := waveRow(w)
		step, stepOK := impl.StepGreat(row)
		if rowOK && stepOK {
			after, ok := waveOf(step)
			wantWave(t, fmt.Sprintf("WaveOf(%q), behind %s,", step, call), after, ok, got, true)
		}
	}
}

func TestPromise53NextOfCases(t *testing.T) {
	for _, c := range []struct{ w, want wave }{
		// One run: the gap behind it is without end.
		{wave{0, []int{1}, nil}, wave{1, []int{1}, nil}},
		{wave{3, []int{5}, nil}, wave{8, []int{5}, nil}},
		{wave{0, []int{most}, nil}, wave{most, []int{most}, nil}},
		{wave{most - 1, []int{1}, nil}, wave{most, []int{1}, nil}},
		// A run that is greater than the gap behind it, as great, and smaller.
		{wave{1, []int{2, 1}, []int{1}}, wave{3, []int{1, 2}, []int{1}}},
		{wave{0, []int{2, 1}, []int{2}}, wave{2, []int{2, 1}, []int{1}}},
		{wave{0, []int{2, 1}, []int{3}}, wave{2, []int{2, 1}, []int{2}}},
		{wave{0, []int{3, 1}, []int{2}}, wave{3, []int{2, 2}, []int{1}}},
		// The last gap grows by the last run less the next run ahead of it, and not by what the last next run takes.
		{wave{0, []int{1, 5}, []int{2}}, wave{1, []int{1, 5}, []int{6}}},
		{wave{0, []int{4, 5}, []int{2}}, wave{4, []int{2, 7}, []int{5}}},
		{wave{0, []int{3, 2, 1}, []int{2, 1}}, wave{3, []int{2, 1, 3}, []int{2, 1}}},
		{wave{0, []int{1, 1, 4}, []int{1, 3}}, wave{1, []int{1, 1, 4}, []int{1, 6}}},
		{wave{0, []int{1, 1, 4}, []int{3, 1}}, wave{1, []int{1, 1, 4}, []int{3, 4}}},
		// What is left over from a run goes into a gap further behind.
		{wave{0, []int{4, 1, 1}, []int{1, 9}}, wave{4, []int{1, 4, 1}, []int{1, 6}}},
		{wave{5, []int{5, 1, 1, 1}, []int{1, 1, 3}}, wave{10, []int{1, 1, 3, 3}, []int{1, 1, 1}}},
		// Exactly 60 runs.
		{wave{0, many(60, 1), many(59, 1)}, wave{1, many(60, 1), many(59, 1)}},
		{wave{most - 2, many(60, 2), many(59, 1)}, wave{most, append(many(59, 1), 61), many(59, 2)}},
		{wave{0, append([]int{60}, many(59, 1)...), many(59, 1)}, wave{60, append(many(59, 1), 60), many(59, 1)}},
		// Next numbers of exactly BoxesMax.
		{wave{most - 5, []int{5}, nil}, wave{most, []int{5}, nil}},
		{wave{0, []int{61, 60}, []int{1}}, wave{61, []int{1, most}, []int{60}}},
		{wave{0, []int{61, 60, 1}, []int{1, most}}, wave{61, []int{1, most, 1}, []int{60, 1}}},
		{wave{0, []int{61, 61, 1}, []int{1, most}}, wave{61, []int{1, most, 2}, []int{61, 1}}},
		{wave{0, []int{1, 1}, []int{most}}, wave{1, []int{1, 1}, []int{most}}},
		{wave{0, []int{3, 3}, []int{most}}, wave{3, []int{3, 3}, []int{most}}},
		{wave{0, []int{most, most}, []int{most}}, wave{most, []int{most, most}, []int{most}}},
		{wave{0, []int{2, most}, []int{2}}, wave{2, []int{2, most}, []int{most}}},
	} {
		got, ok := waveNext(c.w)
		wantWave(t, c.w.call("WaveNext"), got, ok, c.want, true)
	}
}

func TestPromise53NextIsNone(t *testing.T) {
	for _, w := range []wave{
		// The next start would be BoxesMax and 1.
		{1, []int{most}, nil}, {most - 4, []int{5}, nil}, {most, []int{1}, nil}, {most, many(60, 1), many(59, 1)},
		// The last run would be; the other ones are never greater than the gaps behind them.
		{0, []int{61, 61}, []int{1}}, {0, []int{2, most}, []int{1}}, {0, []int{most, 2}, []int{1}}, {0, []int{41, 41, 41}, []int{1, 1}},
		// A gap would be: the only one, the last one, the first one, one between.
		{0, []int{1, 2}, []int{most}}, {0, []int{1, most}, []int{2}}, {0, []int{2, most}, []int{3}},
		{0, []int{1, 1, 2}, []int{1, most}}, {0, []int{1, 2, 1}, []int{most, 1}}, {0, []int{1, 1, 2, 1}, []int{1, most, 1}},
		// All of them would be.
		{most, many(60, most), many(59, 1)},
	} {
		if !w.isWave() || w.next().isWave() {
			t.Fatalf("%s: the wave is none, or the next one is one", w.call("WaveNext"))
		}
		got, ok := waveNext(w)
		wantWave(t, w.call("WaveNext"), got, ok, wave{}, false)
	}
}

func TestPromise53NextRowTooLong(t *testing.T) {
	for _, w := range []wave{
		{0, []int{most}, nil},
		{0, []int{61}, nil},
		{most - 1, []int{1}, nil},
		{1, many(60, 1), many(59, 1)},
		{0, many(40, 2), many(39, 1)},
		{59, []int{20, 20}, []int{2}},
	} {
		row, rowOK := waveRow(w)
		next, ok := waveNext(w)
		wantWave(t, w.call("WaveNext"), next, ok, w.next(), true)
		if !rowOK || len(w.next().row()) <= most {
			t.Fatalf("the row of %v is too long, or that of %v is not", w, w.next())
		}
		s, ok := waveRow(next)
		wantText(t, next.call("WaveRow"), s, ok, "", false)
		s, ok = impl.StepGreat(row)
		wantText(t, fmt.Sprintf("StepGreat(%q)", row), s, ok, "", false)
		s, ok = impl.WaveSigns(row)
		wantText(t, fmt.Sprintf("WaveSigns(%q)", row), s, ok, "", false)
	}
}

func TestPromise54Signs(t *testing.T) {
	for _, s := range someRows() {
		call := fmt.Sprintf("WaveSigns(%q)", s)
		want, _ := stepped(s, most)
		wantText(t, "made by sums, "+call, madeBySigns(s), true, want, true)
		got, ok := impl.WaveSigns(s)
		step, stepOK := impl.StepGreat(s)
		wantText(t, call, got, ok, step, stepOK)
		if len(want) > most {
			wantText(t, call, got, ok, "", false)
			continue
		}
		wantText(t, call, got, ok, want, true)
	}
}

func TestPromise54SignsOfCases(t *testing.T) {
	for _, c := range []struct {
		s, want string
		ok      bool
	}{
		{"", "", true},
		{"0", "", true},
		{zeros(most), "", true},
		{"1", "01", true},
		{"100", "01", true},
		{"01101", "0001011", true},
		{"0110100", "0001011", true},
		{"11001", "001101", true},
		{"111", "000111", true},
		// Exactly BoxesMax signs, and one too many.
		{ones(60), zeros(60) + ones(60), true},
		{ones(60) + zeros(60), zeros(60) + ones(60), true},
		{"0" + ones(60), "", false},
		{ones(61), "", false},
		{ones(most), "", false},
		{zeros(most-2) + "1", zeros(most-1) + "1", true},
		{zeros(most-2) + "10", zeros(most-1) + "1", true},
		{zeros(most-1) + "1", "", false},
		{strings.Repeat("10", 60), strings.Repeat("01", 60), true},
		{strings.Repeat("01", 60), "", false},
		{ones(59) + "01", zeros(59) + "10" + ones(59), true},
		{ones(58) + "0101", zeros(58) + "1010" + ones(58), true},
		{ones(58) + "01011", "", false},
	} {
		got, ok := impl.WaveSigns(c.s)
		wantText(t, fmt.Sprintf("WaveSigns(%q)", c.s), got, ok, c.want, c.ok)
	}
}

func TestPromise54SignsLeaveNoGoroutine(t *testing.T) {
	before := runtime.NumGoroutine()
	for range 200 {
		for _, s := range []string{"", "000", "1", "01101", ones(60), ones(61), ones(most), zeros(most-1) + "1", "2"} {
			impl.WaveSigns(s)
		}
	}
	// One that has closed its channel may need a while until it is gone.
	for range 1000000 {
		if runtime.NumGoroutine() <= before+2 {
			return
		}
		runtime.Gosched()
	}
	t.Errorf("%d goroutines became %d", before, runtime.NumGoroutine())
}

func TestPromise55Sum(t *testing.T) {
	for _, w := range someWaves() {
		call := w.call("WaveSum")
		n, ok := impl.WaveSum(w.start, w.runs, w.gaps)
		wantNumber(t, call, n, ok, sum(w.runs), true)
		if s, ok := waveRow(w); ok && impl.RowBalls(s) != n {
			t.Errorf("%s returned %d, but %q has %d balls", call, n, s, impl.RowBalls(s))
		}
	}
}

func TestPromise55SumOfCases(t *testing.T) {
	for _, c := range []struct {
		w    wave
		want int
	}{
		{wave{0, []int{1}, nil}, 1},
		{wave{most, []int{1}, []int{}}, 1},
		{wave{0, []int{most}, nil}, most},
		{wave{1, []int{2, 1}, []int{1}}, 3},
		{wave{0, []int{1, 2, 4}, []int{9, 80}}, 7},
		{wave{0, []int{most, most}, []int{most}}, 2 * most},
		{wave{0, many(60, 1), many(59, 1)}, 60},
		{wave{most, many(60, most), many(59, most)}, 7200},
	} {
		n, ok := impl.WaveSum(c.w.start, c.w.runs, c.w.gaps)
		wantNumber(t, c.w.call("WaveSum"), n, ok, c.want, true)
	}
}

func TestWavesLeaveLists(t *testing.T) {
	for _, kept := range append(shortWaves(3, 2), wave{most, many(60, 2), many(59, 1)}, wave{1, []int{2, 0}, []int{1}}) {
		w := kept.clone()
		// There is room for more behind the lists, which must stay as it is, too.
		w.runs = append(w.runs, 77)[:len(w.runs)]
		w.gaps = append(w.gaps, 78)[:len(w.gaps)]
		impl.WaveIn(w.start, w.runs, w.gaps)
		impl.WaveRow(w.start, w.runs, w.gaps)
		impl.WaveNext(w.start, w.runs, w.gaps)
		impl.WaveSum(w.start, w.runs, w.gaps)
		wantWave(t, kept.call("each function")+" left the lists as it", w, true, kept, true)
		if w.runs[:len(w.runs)+1][len(w.runs)] != 77 || w.gaps[:len(w.gaps)+1][len(w.gaps)] != 78 {
			t.Errorf("what is behind the lists of %v was changed", kept)
		}
	}
}

func TestWavesAreNew(t *testing.T) {
	for _, s := range []string{"1", "01101", "0111010011", strings.Repeat("10", 60)} {
		want := waveIn(s)
		w, _ := waveOf(s)
		next, _ := waveNext(w)
		lists := [][]int{w.runs, w.gaps, next.runs, next.gaps}
		for i := range lists {
			for j := range lists {
				if i != j && !outlasts(lists[i], lists[j]) {
					t.Errorf("of the lists %v of %q, the number %d changes with the number %d", lists, s, i, j)
				}
			}
		}
		for _, list := range lists {
			spoil(list)
		}
		w, ok := waveOf(s)
		wantWave(t, fmt.Sprintf("WaveOf(%q), again,", s), w, ok, want, true)
		next, ok = waveNext(w)
		wantWave(t, want.call("WaveNext")+", again,", next, ok, want.next(), true)
	}
}

// outlasts reports whether a list stays as it is when another one, with what its capacity holds behind it, is written over. Both are then as before.
func outlasts(list, other []int) bool {
	before, others := slices.Clone(list), slices.Clone(other)
	spoil(other)
	same := slices.Equal(list, before)
	copy(other, others)
	copy(list, before)
	return same
}
