package impl

import (
	"slices"
	"strings"
)

const MaxSide = 6

// maxCounted is the greatest number of rows for which CountSigns counts: it needs no matrices, so it may exceed MaxSide.
const maxCounted = 8

// signBytes has the byte of the sign v at the index v + 1.
const signBytes = "-0+"

// grid is a table with as many rows as columns; whoever makes one of an argument has checked that with isSquare.
type grid [][]int

// newTable allocates each row by itself, so that no two rows of a result share memory.
func newTable(rows, columns int) [][]int {
	t := make([][]int, rows)
	for i := range t {
		t[i] = make([]int, columns)
	}
	return t
}

func newGrid(n int) grid { return newTable(n, n) }

func hasSize(t [][]int, rows, columns int) bool {
	return len(t) == rows && !slices.ContainsFunc(t, func(row []int) bool { return len(row) != columns })
}

// isSquare comes before every other check, as only then indexes are safe.
func isSquare(m [][]int) bool {
	n := len(m)
	return n >= 1 && n <= MaxSide && hasSize(m, n, n)
}

// sumOf adds up what value tells of each item: of the numbers of a row, or of the rows of a grid.
func sumOf[T any](items []T, value func(T) int) int {
	sum := 0
	for _, item := range items {
		sum += value(item)
	}
	return sum
}

func itself(v int) int { return v }

func oneIfMinus(v int) int {
	if v == -1 {
		return 1
	}
	return 0
}

// sumOfBlock returns the sum of the numbers in some rows of a grid and their first columns.
func sumOfBlock(rows grid, columns int) int {
	return sumOf(rows, func(row []int) int { return sumOf(row[:columns], itself) })
}

func (g grid) minusOnes() int {
	return sumOf(g, func(row []int) int { return sumOf(row, oneIfMinus) })
}

func (g grid) turned() grid {
	t := newGrid(len(g))
	for i, row := range g {
		for j, v := range row {
			t[j][len(g)-1-i] = v
		}
	}
	return t
}

func (g grid) mirrored() grid {
	t := newGrid(len(g))
	for i, row := range g {
		for j, v := range row {
			t[i][len(g)-1-j] = v
		}
	}
	return t
}

func (g grid) transposed() grid {
	t := newGrid(len(g))
	for i, row := range g {
		for j, v := range row {
			t[j][i] = v
		}
	}
	return t
}

func (g grid) copied() grid {
	c := newGrid(len(g))
	for i, row := range g {
		copy(c[i], row)
	}
	return c
}

// images returns a grid behind 0, 1, 2 and 3 turns, and the mirrored ones of these: all that turns and mirrors make of it.
func (g grid) images() []grid {
	list := []grid{g.copied()}
	for len(list) < 4 {
		list = append(list, list[len(list)-1].turned())
	}
	for _, turned := range list {
		list = append(list, turned.mirrored())
	}
	return list
}

// differences undoes corner sums. It may wrap around for great numbers, but so would the sums, so that no other table is taken for corner sums.
func (g grid) differences() grid {
	d := newGrid(len(g))
	for i, row := range g {
		for j, v := range row {
			d[i][j] = v - g.corner(i-1, j) - g.corner(i, j-1) + g.corner(i-1, j-1)
		}
	}
	return d
}

// corner reads a corner sum; those before the first row or column are sums of nothing.
func (g grid) corner(i, j int) int {
	if i < 0 || j < 0 {
		return 0
	}
	return g[i][j]
}

func compareGrids(a, b grid) int {
	return slices.CompareFunc(a, b, slices.Compare[[]int])
}

// signsAlternate reports whether a row or column can be one of a sign matrix. Where all sums are 0 or 1, no number but 0, 1 and -1 can stand.
func signsAlternate(line []int) bool {
	sum := 0
	for _, v := range line {
		sum += v
		if sum < 0 || sum > 1 {
			return false
		}
	}
	return sum == 1
}

// ifSigns hands out a newly made grid only if it is a sign matrix.
func ifSigns(g grid) ([][]int, bool) {
	if !IsSignMatrix(g) {
		return nil, false
	}
	return g, true
}

// imageOf applies a turn or a mirror, told as a method expression, to a sign matrix.
func imageOf(m [][]int, change func(grid) grid) ([][]int, bool) {
	if !IsSignMatrix(m) {
		return nil, false
	}
	return change(m), true
}

// choicesOf returns how many choices of k of n things there are; after each step the product is such a number itself, so that the division is exact.
func choicesOf(k, n int) int {
	count := 1
	for i := range k {
		count = count * (n - i) / (i + 1)
	}
	return count
}

// parseSignRow requires the length before anything is allocated, as a text may be of any size.
func parseSignRow(text string, length int) ([]int, bool) {
	if len(text) != length {
		return nil, false
	}
	row := make([]int, length)
	for j := range row {
		index := strings.IndexByte(signBytes, text[j])
		if index < 0 {
			return nil, false
		}
		row[j] = index - 1
	}
	return row, true
}

// IsSignMatrix reports whether m is a sign matrix.
func IsSignMatrix(m [][]int) bool {
	if !isSquare(m) {
		return false
	}
	for _, lines := range []grid{m, grid(m).transposed()} {
		for _, line := range lines {
			if !signsAlternate(line) {
				return false
			}
		}
	}
	return true
}

// IsPlacing reports whether a sign matrix is a placing.
func IsPlacing(m [][]int) (bool, bool) {
	if !IsSignMatrix(m) {
		return false, false
	}
	return grid(m).minusOnes() == 0, true
}

// FromPlacing returns the sign matrix of 1..MaxSide rows that has 1 in each row i at the column p[i], p having each of 0..n - 1 once, and 0 elsewhere.
func FromPlacing(p []int) ([][]int, bool) {
	n := len(p)
	if n > MaxSide {
		return nil, false
	}
	g := newGrid(n)
	for i, j := range p {
		if j < 0 || j >= n {
			return nil, false
		}
		g[i][j] = 1
	}
	// A column that p has twice leaves no sign matrix.
	return ifSigns(g)
}

// CornerSums returns the corner sums.
func CornerSums(m [][]int) ([][]int, bool) {
	if !IsSignMatrix(m) {
		return nil, false
	}
	c := newGrid(len(m))
	for i, row := range c {
		for j := range row {
			row[j] = sumOfBlock(m[:i+1], j+1)
		}
	}
	return c, true
}

// AreCorners reports whether c are the corner sums of a sign matrix.
func AreCorners(c [][]int) bool {
	_, ok := FromCorners(c)
	return ok
}

// FromCorners returns the sign matrix with given corner sums. It fails if there is none.
func FromCorners(c [][]int) ([][]int, bool) {
	if !isSquare(c) {
		return nil, false
	}
	return ifSigns(grid(c).differences())
}

// MinusOnes returns how many numbers -1 there are.
func MinusOnes(m [][]int) (int, bool) {
	if !IsSignMatrix(m) {
		return 0, false
	}
	return grid(m).minusOnes(), true
}

// InversionsOf returns the sum of the products of all pairs of numbers of which the second one is in a later row and an earlier column.
func InversionsOf(m [][]int) (int, bool) {
	if !IsSignMatrix(m) {
		return 0, false
	}
	sum := 0
	for i, row := range m {
		for j, v := range row {
			sum += v * sumOfBlock(m[i+1:], j)
		}
	}
	return sum, true
}

// FirstColumn returns the column of the 1 in the first row.
func FirstColumn(m [][]int) (int, bool) {
	if !IsSignMatrix(m) {
		return 0, false
	}
	return slices.Index(m[0], 1), true
}

// TurnMatrix returns the matrix turned clockwise: the last column of it is the first row of m.
func TurnMatrix(m [][]int) ([][]int, bool) { return imageOf(m, grid.turned) }

// MirrorMatrix returns the matrix whose rows are those of m backwards.
func MirrorMatrix(m [][]int) ([][]int, bool) { return imageOf(m, grid.mirrored) }

// TransposeMatrix returns the matrix with rows and columns exchanged.
func TransposeMatrix(m [][]int) ([][]int, bool) { return imageOf(m, grid.transposed) }

// StackMatrices returns the sign matrix with m in its first rows and columns, k in its last ones, and 0 elsewhere. It fails if it is too large.
func StackMatrices(m [][]int, k [][]int) ([][]int, bool) {
	if !IsSignMatrix(m) || !IsSignMatrix(k) || len(m)+len(k) > MaxSide {
		return nil, false
	}
	g := newGrid(len(m) + len(k))
	for i, row := range m {
		copy(g[i], row)
	}
	for i, row := range k {
		copy(g[len(m)+i][len(m):], row)
	}
	return g, true
}

// CountSigns returns how many sign matrices have n rows, n in 1..8: the product, for k in 0..n - 1, of the factorial of 3 k + 1 divided by that of n + k.
func CountSigns(n int) (int, bool) {
	if n < 1 || n > maxCounted {
		return 0, false
	}
	// The factorials themselves do not fit an int; the quotient of the counts for k + 1 and k is one of two numbers of choices.
	count := 1
	for k := 1; k < n; k++ {
		count = count * choicesOf(k, 3*k+1) / choicesOf(k, 2*k)
	}
	return count, true
}

// LeastOfTurns returns the lexicographically least one of the eight matrices that are got from m by turns and mirrors.
func LeastOfTurns(m [][]int) ([][]int, bool) {
	if !IsSignMatrix(m) {
		return nil, false
	}
	return slices.MinFunc(grid(m).images(), compareGrids), true
}

// SignText returns the rows, in order, with +, - and 0 for 1, -1 and 0, and a / between them.
func SignText(m [][]int) (string, bool) {
	if !IsSignMatrix(m) {
		return "", false
	}
	var text strings.Builder
	for i, row := range m {
		if i > 0 {
			text.WriteByte('/')
		}
		for _, v := range row {
			text.WriteByte(signBytes[v+1])
		}
	}
	return text.String(), true
}

// ParseSigns returns the sign matrix with a SignText. It fails if there is none.
func ParseSigns(s string) ([][]int, bool) {
	// One part more than there may be rows is enough to tell that there are too many.
	parts := strings.SplitN(s, "/", MaxSide+1)
	if len(parts) > MaxSide {
		return nil, false
	}
	g := make(grid, len(parts))
	for i, part := range parts {
		row, ok := parseSignRow(part, len(parts))
		if !ok {
			return nil, false
		}
		g[i] = row
	}
	return ifSigns(g)
}
