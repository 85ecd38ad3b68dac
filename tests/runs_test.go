package tests

import (
	"fmt"
	"slices"
	"strings"
	"testing"
)

// mostRuns is the greatest number of runs of a wave.
const mostRuns = 60

// wave is a start, runs and gaps, which need not be those of a wave.
type wave struct {
	start      int
	runs, gaps []int
}

// call returns how a function is called with the numbers.
func (w wave) call(function string) string {
	return fmt.Sprintf("%s(%d, %v, %v)", function, w.start, w.runs, w.gaps)
}

// clone returns the same numbers in new memory.
func (w wave) clone() wave {
	return wave{w.start, slices.Clone(w.runs), slices.Clone(w.gaps)}
}

// isWave reports whether the numbers are those of a wave.
func (w wave) isWave() bool {
	if w.start < 0 || w.start > most || len(w.runs) == 0 || len(w.runs) > mostRuns || len(w.gaps)+1 != len(w.runs) {
		return false
	}
	all := slices.Concat(w.runs, w.gaps)
	return slices.Min(all) > 0 && slices.Max(all) <= most
}

// row returns the text of the row of a wave, however long.
func (w wave) row() string {
	s := zeros(w.start)
	for i, gap := range w.gaps {
		s += ones(w.runs[i]) + zeros(gap)
	}
	return s + ones(w.runs[len(w.runs)-1])
}

// next returns the next numbers, as those of the row of any length behind a step with room for all balls.
func (w wave) next() wave {
	after, _ := stepped(w.row(), sum(w.runs))
	return waveIn(after)
}

// nextBySums returns the next numbers, with each sum made anew.
func (w wave) nextBySums() wave {
	next := wave{start: w.start + w.runs[0]}
	for i := range w.runs {
		run := sum(w.runs[:i+1]) - sum(next.runs)
		if i < len(w.gaps) && w.gaps[i] < run {
			run = w.gaps[i]
		}
		next.runs = append(next.runs, run)
	}
	for i := range w.gaps {
		next.gaps = append(next.gaps, w.runs[i+1]+w.gaps[i]-next.runs[i])
	}
	return next
}

// waveIn returns the start, the runs and the gaps of a text with a ball.
func waveIn(s string) wave {
	return wave{strings.Index(s, "1"), lengthsOf(s, "0"), lengthsOf(strings.Trim(s, "0"), "1")}
}

// madeBySigns returns the tidy text that is made of a row sign by sign, however long, with each sum made anew.
func madeBySigns(s string) string {
	s += zeros(len(s))
	made := ""
	for i := range s {
		lead := strings.Count(s[:i], "1") - strings.Count(made, "1")
		v := min(1-int(s[i]-'0'), lead)
		made += string(rune('0' + v))
	}
	return tidied(made)
}

// shortWaves returns all waves of at most n runs, with starts less than 3, and with runs and gaps up to a greatest one.
func shortWaves(n, greatest int) []wave {
	var all []wave
	for _, list := range shortLists(2*n-1, greatest) {
		if len(list)%2 == 0 {
			continue
		}
		w := wave{}
		for i, x := range list {
			if i%2 == 0 {
				w.runs = append(w.runs, x)
			} else {
				w.gaps = append(w.gaps, x)
			}
		}
		for start := range 3 {
			w.start = start
			all = append(all, w.clone())
		}
	}
	return all
}

// greatWaves returns waves with numbers near the limits, and mixed ones, with rows shorter than BoxesMax and longer.
func greatWaves() []wave {
	var all []wave
	for _, start := range []int{0, 1, 59, 60, most - 1, most} {
		for _, first := range []int{1, 2, 59, 60, 61, most - 1, most} {
			all = append(all, wave{start, []int{first}, nil})
			for _, gap := range []int{1, 2, 60, most - 1, most} {
				for _, last := range []int{1, 2, 60, most - 1, most} {
					all = append(all,
						wave{start, []int{first, last}, []int{gap}},
						wave{start, []int{1, first, last}, []int{gap, 1}},
						wave{start, []int{first, last, 1}, []int{1, gap}})
				}
			}
		}
	}
	for _, n := range []int{2, 3, 5, 10, 30, mostRuns - 1, mostRuns} {
		for _, greatest := range []int{1, 2, 3, 9, most} {
			for seed := range 4 {
				all = append(all, mixedWave(n, greatest, seed))
			}
		}
	}
	return all
}

// mixedWave returns a wave of n runs, with runs and gaps up to a greatest one, which looks irregular and is the same in each run of the tests.
func mixedWave(n, greatest, seed int) wave {
	x := uint32(seed*4001 + n*67 + greatest)
	draw := func(count int) int {
		x = x*1664525 + 1013904223
		return int(x>>16) % count
	}
	w := wave{start: draw(greatest + 1)}
	for i := range n {
		if i > 0 {
			w.gaps = append(w.gaps, 1+draw(greatest))
		}
		w.runs = append(w.runs, 1+draw(greatest))
	}
	return w
}

// someWaves returns the waves on which the promises are tested.
func someWaves() []wave {
	all := append(shortWaves(3, 4), shortWaves(4, 2)...)
	for _, s := range someRows() {
		if strings.Contains(s, "1") {
			all = append(all, waveIn(s))
		}
	}
	return append(all, greatWaves()...)
}

// wantWave checks a wave and the bool behind it; what fails is told by a false ok and a want without numbers.
func wantWave(t *testing.T, call string, got wave, gotOK bool, want wave, ok bool) {
	t.Helper()
	if got.start != want.start || !slices.Equal(got.runs, want.runs) || !slices.Equal(got.gaps, want.gaps) || gotOK != ok {
		t.Errorf("%s returned %v, %v; want %v, %v", call, got, gotOK, want, ok)
	}
}
