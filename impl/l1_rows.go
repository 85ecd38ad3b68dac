package impl

import (
	"bytes"
	"iter"
	"slices"
)

// BoxesMax is the greatest number of boxes of a row.
const BoxesMax = 120

// row tells of each box whether it has a ball; all boxes behind its last one are empty.
type row []bool

// readRow returns the boxes of a text up to its last ball, and whether it is a row.
func readRow(s string) (row, bool) {
	if !RowValid(s) {
		return nil, false
	}
	r := make(row, len(s))
	for i := range r {
		r[i] = s[i] == '1'
	}
	return r.tidy(), true
}

// tidy cuts the empty boxes behind the last ball off.
func (r row) tidy() row {
	n := len(r)
	for n > 0 && !r[n-1] {
		n--
	}
	return r[:n]
}

// balls gives out the indexes of the boxes with a ball, in ascending order.
func (r row) balls() iter.Seq[int] {
	return func(yield func(int) bool) {
		for i, ball := range r {
			if ball && !yield(i) {
				return
			}
		}
	}
}

// count returns the number of balls.
func (r row) count() int {
	n := 0
	for range r.balls() {
		n++
	}
	return n
}

// levels returns, for each number of boxes, that of the empty ones among the first ones less that of balls.
func (r row) levels() []int {
	levels := make([]int, len(r)+1)
	for i, ball := range r {
		if ball {
			levels[i+1] = levels[i] - 1
		} else {
			levels[i+1] = levels[i] + 1
		}
	}
	return levels
}

// text returns the tidy text of the row, and whether it is short enough for a row.
func (r row) text() (string, bool) {
	r = r.tidy()
	if len(r) > BoxesMax {
		return "", false
	}
	signs := bytes.Repeat([]byte{'0'}, len(r))
	for i := range r.balls() {
		signs[i] = '1'
	}
	return string(signs), true
}

// RowValid reports whether a text is a row.
func RowValid(s string) bool {
	if len(s) > BoxesMax {
		return false
	}
	for i := range len(s) {
		if s[i] != '0' && s[i] != '1' {
			return false
		}
	}
	return true
}

// RowTidy returns the tidy row with the same balls, and true.
func RowTidy(s string) (string, bool) {
	r, ok := readRow(s)
	if !ok {
		return "", false
	}
	return r.text()
}

// RowBalls returns the number of balls of a row, or -1 if the text is none.
func RowBalls(s string) int {
	r, ok := readRow(s)
	if !ok {
		return -1
	}
	return r.count()
}

// RowOf returns the row with balls in the boxes with some indexes, counted from 0, and true. It fails if one is less than 0, stands twice, or is not less than BoxesMax.
func RowOf(list []int) (string, bool) {
	r := make(row, BoxesMax)
	for _, i := range list {
		if i < 0 || i >= BoxesMax || r[i] {
			return "", false
		}
		r[i] = true
	}
	return r.text()
}

// RowAt returns the indexes of the boxes with a ball, in ascending order, and true. It fails if the text is no row.
func RowAt(s string) ([]int, bool) {
	r, ok := readRow(s)
	if !ok {
		return nil, false
	}
	return slices.Collect(r.balls()), true
}

// RowShift returns the row with n empty boxes put ahead, and true. It fails if n is less than 0.
func RowShift(s string, n int) (string, bool) {
	r, ok := readRow(s)
	if !ok || n < 0 {
		return "", false
	}
	// Without a ball, no n is too great: the tidy result has no signs.
	if len(r) == 0 {
		return "", true
	}
	// The sum of the two lengths could overflow, and the result need not be made only to be too long.
	if n > BoxesMax-len(r) {
		return "", false
	}
	return append(make(row, n), r...).text()
}

// RowTurned returns the row with its boxes up to the last ball in the opposite order, made tidy, and true.
func RowTurned(s string) (string, bool) {
	r, ok := readRow(s)
	if !ok {
		return "", false
	}
	slices.Reverse(r)
	return r.text()
}

// RowLevels returns, for each number of boxes from 0 to the number of signs of a tidy row, the number of empty boxes among the first ones less that of balls, and true. It fails if the text is no row or not tidy.
func RowLevels(s string) ([]int, bool) {
	r, ok := readRow(s)
	// readRow cuts off what a tidy text does not have.
	if !ok || len(r) != len(s) {
		return nil, false
	}
	return r.levels(), true
}

// RowHigh reports whether no number of RowLevels is less than 0; it does not hold if RowLevels fails.
func RowHigh(s string) bool {
	levels, ok := RowLevels(s)
	return ok && slices.Min(levels) >= 0
}
