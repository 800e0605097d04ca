package tests

import (
	"fmt"
	"math"
	"slices"
	"testing"

	"loop.example/g01123/impl"
)

// spareMark stands behind the length of each slice that guarded makes, where nothing may read or write.
const spareMark = 77

func sameTable(a, b [][]int) bool {
	return slices.EqualFunc(a, b, func(x, y []int) bool { return slices.Equal(x, y) })
}

func copyTable(m [][]int) [][]int {
	c := make([][]int, len(m))
	for i, row := range m {
		c[i] = slices.Clone(row)
	}
	return c
}

func compareTables(a, b [][]int) int {
	return slices.CompareFunc(a, b, slices.Compare[[]int])
}

// guardedRow copies a row into a slice with spare capacity.
func guardedRow(row []int) []int {
	long := append(slices.Clone(row), spareMark, spareMark)
	return long[:len(row)]
}

// guarded copies a table into one whose rows, and which itself, have spare capacity.
func guarded(m [][]int) [][]int {
	long := make([][]int, 0, len(m)+1)
	for _, row := range m {
		long = append(long, guardedRow(row))
	}
	long = append(long, []int{spareMark})
	return long[:len(m)]
}

func rowUntouched(row, before []int) bool {
	long := row[:len(row)+2]
	return slices.Equal(row, before) && long[len(row)] == spareMark && long[len(row)+1] == spareMark
}

// untouched reports whether a table made by guarded of another one is as it was, spare capacity included.
func untouched(m, before [][]int) bool {
	if len(m) != len(before) {
		return false
	}
	for i, row := range m {
		if len(row) != len(before[i]) || !rowUntouched(row, before[i]) {
			return false
		}
	}
	behind := m[:len(m)+1][len(m)]
	return len(behind) == 1 && behind[0] == spareMark
}

// fillWhole writes a value all over a slice and its spare capacity.
func fillWhole(row []int, v int) {
	row = row[:cap(row)]
	for i := range row {
		row[i] = v
	}
}

// rowsApart overwrites the rows of a result, each with its own value, and reports whether they kept these values.
func rowsApart(m [][]int) bool {
	for i, row := range m {
		fillWhole(row, 100+i)
	}
	for i, row := range m {
		for _, v := range row[:cap(row)] {
			if v != 100+i {
				return false
			}
		}
	}
	return true
}

// tablesApart replaces the rows of all tables of a result, each by its own one, and reports whether they stay.
func tablesApart(list [][][]int) bool {
	for k, m := range list {
		for i := range m {
			m[i] = []int{k, i}
		}
	}
	for k, m := range list {
		for i, row := range m {
			if !slices.Equal(row, []int{k, i}) {
				return false
			}
		}
	}
	return true
}

// wantNewRows checks that no rows of a result share memory, and that a later call does not find what became of them.
func wantNewRows(t *testing.T, what string, call func() ([][]int, bool)) {
	t.Helper()
	rows, ok := call()
	want := copyTable(rows)
	if !rowsApart(rows) {
		t.Fatalf("%s: rows share memory", what)
	}
	again, fine := call()
	wantTable(t, what+" again", again, ok == fine, want)
}

// wantNewTables checks the same of a list of tables, which must be the one wanted.
func wantNewTables(t *testing.T, what string, call func() ([][][]int, bool), want [][][]int) {
	t.Helper()
	list, _ := call()
	if !rowsApart(slices.Concat(list...)) {
		t.Fatalf("%s: rows share memory", what)
	}
	if !tablesApart(list) {
		t.Fatalf("%s: tables share memory", what)
	}
	again, ok := call()
	if !ok || !sameList(again, want) {
		t.Fatalf("%s again: %v, %t instead of %v", what, again, ok, want)
	}
}

// ofCounts lets a function that makes a list of a number stand among those that make a table of it.
func ofCounts(call func(n int) ([]int, bool)) func(n int) ([][]int, bool) {
	return func(n int) ([][]int, bool) {
		counts, ok := call(n)
		if len(counts) == 0 {
			return nil, ok
		}
		return [][]int{counts}, ok
	}
}

// hasSigns tells by the signs that are not 0 whether they begin and end with 1 and alternate.
func hasSigns(line []int) bool {
	last := -1
	for _, v := range line {
		if v == 0 {
			continue
		}
		if v != -last {
			return false
		}
		last = v
	}
	return last == 1
}

func columnOf(m [][]int, j int) []int {
	var column []int
	for _, row := range m {
		column = append(column, row[j])
	}
	return column
}

// areSigns is another way than the program's to tell a sign matrix among square tables.
func areSigns(m [][]int) bool {
	for i := range m {
		if !hasSigns(m[i]) || !hasSigns(columnOf(m, i)) {
			return false
		}
	}
	return len(m) > 0
}

// tablesOf calls visit for all square tables of numbers in low..high; visit must not keep them.
func tablesOf(n, low, high int, visit func([][]int)) {
	m := make([][]int, n)
	for i := range m {
		m[i] = make([]int, n)
	}
	var fill func(place int)
	fill = func(place int) {
		if place == n*n {
			visit(m)
			return
		}
		for v := low; v <= high; v++ {
			m[place/n][place%n] = v
			fill(place + 1)
		}
	}
	fill(0)
}

// signRows returns all rows of n signs that alternate.
func signRows(n int) [][]int {
	var rows [][]int
	var fill func(row []int)
	fill = func(row []int) {
		if len(row) == n {
			if hasSigns(row) {
				rows = append(rows, slices.Clone(row))
			}
			return
		}
		for v := -1; v <= 1; v++ {
			fill(append(slices.Clone(row), v))
		}
	}
	fill(nil)
	return rows
}

// signMatrices lists all sign matrices of n rows without the program's help, in order.
func signMatrices(n int) [][][]int {
	rows := signRows(n)
	var list [][][]int
	var grow func(m [][]int, sums []int)
	grow = func(m [][]int, sums []int) {
		if len(m) == n {
			if !slices.Contains(sums, 0) {
				list = append(list, copyTable(m))
			}
			return
		}
		for _, row := range rows {
			next := slices.Clone(sums)
			for j, v := range row {
				next[j] += v
			}
			if slices.Min(next) >= 0 && slices.Max(next) <= 1 {
				grow(append(m, row), next)
			}
		}
	}
	grow(nil, make([]int, n))
	return list
}

func identity(n int) [][]int {
	m := make([][]int, n)
	for i := range m {
		m[i] = make([]int, n)
		m[i][i] = 1
	}
	return m
}

// notSquare lists tables that no chapter takes for square ones of 1..MaxSide rows.
func notSquare() [][][]int {
	return [][][]int{
		nil,
		{},
		{nil},
		{{}, {}},
		{{1, 0}},
		{{1}, {0}},
		{{1, 0}, {0}},
		{{1}, {0, 1}},
		{{1, 0}, {0, 1, 0}},
		{{1, 0, 0}, {0, 1, 0}},
		{{1, 0}, {0, 1}, {0, 0}},
		{{1, 0}, nil},
		{nil, {0, 1}},
		{{0, 1, 0}, {1, -1, 1}, {0, 1}},
		{{1, 0, 0, 0, 0, 0}, nil, nil, nil, nil, nil},
		identity(impl.MaxSide + 1),
		identity(50),
	}
}

// notSigns lists tables that are not sign matrices; those whose rows are at fault are followed by others with such columns.
func notSigns() [][][]int {
	list := notSquare()
	for _, m := range [][][]int{
		{{0}},
		{{-1}},
		{{2}},
		{{math.MaxInt}},
		{{math.MinInt}},
		{{0, 0}, {0, 0}},
		{{1, 1}, {0, 0}},
		{{1, 1}, {1, 1}},
		{{2, -1}, {-1, 2}},
		{{-1, 2}, {2, -1}},
		{{math.MinInt, math.MinInt}, {math.MinInt, math.MinInt}},
		{{math.MaxInt, math.MinInt + 2}, {math.MinInt + 2, math.MaxInt}},
		{{1, 0, 0}, {0, 1, 0}, {0, 0, 0}},
		{{1, 0, 0}, {-1, 1, 1}, {1, 0, 0}},
		{{0, 0, 1}, {1, 1, -1}, {0, 0, 1}},
		{{0, 1, 0}, {1, -2, 2}, {0, 2, -1}},
		{{0, 1, 0}, {1, -1, 1}, {0, 1, 1}},
		{{0, 1, 0}, {1, -1, 0}, {0, 1, 0}},
		{{0, 1, 0}, {2, -3, 2}, {0, 1, 0}},
		{{0, 1, 0, 0}, {1, -1, -1, 1}, {0, 1, 1, 0}, {0, 0, 1, 0}},
	} {
		list = append(list, m, flipped(m))
	}
	return list
}

// flipped exchanges the rows and columns of a square table.
func flipped(m [][]int) [][]int {
	var t [][]int
	for j := range m {
		t = append(t, columnOf(m, j))
	}
	return t
}

func wantTable(t *testing.T, what string, got [][]int, ok bool, want [][]int) {
	t.Helper()
	if !ok || !sameTable(got, want) {
		t.Fatalf("%s: %v, %t instead of %v", what, got, ok, want)
	}
}

func wantNumber(t *testing.T, what string, got int, ok bool, want int) {
	t.Helper()
	if !ok || got != want {
		t.Fatalf("%s: %d, %t instead of %d", what, got, ok, want)
	}
}

// wantAllShared checks that numbers add up to that of all sign matrices of n rows.
func wantAllShared(t *testing.T, what string, numbers []int, ok bool, n int) {
	t.Helper()
	all, fine := impl.CountSigns(n)
	wantNumber(t, "sum of "+what, sumOfTable([][]int{numbers}), ok && fine, all)
}

func wantNoTable(t *testing.T, what string, got [][]int, ok bool) {
	t.Helper()
	if ok || len(got) != 0 {
		t.Errorf("%s: %v, %t instead of a failure", what, got, ok)
	}
}

func named(what string, argument any) string {
	return fmt.Sprintf("%s of %v", what, argument)
}
