package tests

import (
	"fmt"
	"math"
	"slices"
	"testing"

	"loop.example/g01123/impl"
)

// risingRows lists all rows of some numbers in low..high that rise, in lexicographic order.
func risingRows(size, low, high int) [][]int {
	if size == 0 {
		return [][]int{{}}
	}
	var rows [][]int
	for v := low; v <= high; v++ {
		for _, rest := range risingRows(size-1, v+1, high) {
			rows = append(rows, append([]int{v}, rest...))
		}
	}
	return rows
}

// fits tells, as the document does, whether a row fits under another one.
func fits(row, above []int) bool {
	if len(row) != len(above)+1 {
		return false
	}
	for k := range above {
		if above[k] < row[k] || above[k] > row[k+1] {
			return false
		}
	}
	return true
}

func rises(row []int) bool {
	for k, v := range row {
		if v < 0 || v > impl.MaxRow {
			return false
		}
		if k > 0 && row[k-1] >= v {
			return false
		}
	}
	return true
}

// looksLikeTriangle is another way than the program's to tell a triangle among tables of any rows.
func looksLikeTriangle(t [][]int) bool {
	if len(t) == 0 || len(t) > impl.MaxSide || len(t[0]) != 1 {
		return false
	}
	for i := range t {
		if !rises(t[i]) || i > 0 && !fits(t[i], t[i-1]) {
			return false
		}
	}
	return true
}

// rowsThatStandAbove filters all rows, instead of making those that fit.
func rowsThatStandAbove(row []int) [][]int {
	var rows [][]int
	if len(row) == 1 {
		return rows
	}
	for _, above := range risingRows(len(row)-1, 0, impl.MaxRow) {
		if fits(row, above) {
			rows = append(rows, above)
		}
	}
	return rows
}

// trianglesUnder counts by the rows above; known keeps what has been counted.
func trianglesUnder(row []int, known map[string]int) int {
	if len(row) == 1 {
		return 1
	}
	key := fmt.Sprint(row)
	if count, ok := known[key]; ok {
		return count
	}
	count := 0
	for _, above := range rowsThatStandAbove(row) {
		count += trianglesUnder(above, known)
	}
	known[key] = count
	return count
}

// someRows lists all rows of up to four numbers and longer ones without, with small and with great gaps, at both ends of 0..MaxRow.
func someRows() [][]int {
	var rows [][]int
	for size := 1; size <= 4; size++ {
		rows = append(rows, risingRows(size, 0, impl.MaxRow)...)
	}
	return append(rows, [][]int{
		{0, 1, 2, 3, 4}, {11, 12, 13, 14, 15}, {0, 3, 7, 11, 15}, {0, 1, 8, 14, 15}, {2, 4, 6, 8, 10},
		{0, 1, 2, 3, 4, 5}, {10, 11, 12, 13, 14, 15}, {0, 3, 6, 9, 12, 15}, {0, 1, 2, 13, 14, 15},
		{0, 2, 4, 6, 8, 10}, {5, 7, 9, 11, 13, 15}, {0, 10, 11, 12, 13, 15}, {1, 2, 4, 7, 11, 14},
	}...)
}

// notRows lists what is no row of 1..MaxSide numbers in 0..MaxRow that rise.
func notRows() [][]int {
	return [][]int{
		nil, {}, {-1}, {16}, {63}, {64}, {math.MinInt}, {math.MaxInt},
		{0, 0}, {15, 15}, {1, 0}, {-1, 0}, {0, 16}, {15, 16}, {0, 64}, {0, math.MaxInt}, {math.MinInt, 0}, {math.MinInt, math.MaxInt},
		{0, 2, 1}, {0, 2, 2}, {1, 1, 2}, {2, 0, 1}, {2, 1, 0}, {0, -1, 2}, {0, 16, 2},
		{0, 1, 2, 3, 4, 4}, {0, 0, 1, 2, 3, 4}, {0, 1, 2, 3, 4, 16}, {-1, 1, 2, 3, 4, 5}, {5, 4, 3, 2, 1, 0},
		{0, 1, 2, 3, 4, 5, 6}, {9, 10, 11, 12, 13, 14, 15}, make([]int, 6), make([]int, 7), make([]int, 100000),
	}
}

// beginnings returns the triangle whose rows are the beginnings of a row.
func beginnings(row []int) [][]int {
	var t [][]int
	for k := range row {
		t = append(t, slices.Clone(row[:k+1]))
	}
	return t
}

// notTriangles lists tables that are no triangles.
func notTriangles() [][][]int {
	return [][][]int{
		nil, {}, {nil}, {{}}, {{-1}}, {{16}}, {{math.MinInt}}, {{math.MaxInt}},
		{{0, 1}}, {{0}, nil}, {nil, {0, 1}}, {{0}, {0}}, {{0}, {0, 1, 2}}, {{0, 1}, {0, 1}}, {{0, 1}, {0}},
		{{0}, {0, 0}}, {{1}, {1, 0}}, {{1}, {2, 0}}, {{0}, {-1, 0}}, {{15}, {15, 16}}, {{15}, {0, 16}}, {{-1}, {-1, 0}}, {{16}, {0, 16}},
		{{0}, {1, 2}}, {{3}, {1, 2}}, {{0}, {math.MinInt, math.MaxInt}}, {{64}, {0, 64}},
		{{1}, {0, 2}, {0, 1}}, {{1}, {0, 2}, {0, 1, 2, 3}}, {{1}, {0, 2}, {}}, {{1}, {}, {0, 1, 2}}, {{1}, {0, 2}, nil},
		{{1}, {0, 2}, {1, 2, 3}}, {{1}, {0, 2}, {0, 1, 1}}, {{1}, {0, 3}, {0, 1, 2}}, {{1}, {0, 2}, {0, 3, 4}}, {{0}, {1, 2}, {0, 1, 2}},
		{{1}, {1, 1}, {0, 1, 2}}, {{1}, {0, 2}, {0, 2, 1}}, {{1}, {0, 2}, {0, 2, 16}},
		beginnings([]int{0, 1, 2, 3, 4, 5, 6}), beginnings([]int{0, 1, 2, 3, 4, 5, 5}), make([][]int, 6), make([][]int, 100000),
	}
}

// triangleWanted lists in each row the columns in which the sum of the numbers so far is 1.
func triangleWanted(m [][]int) [][]int {
	t := make([][]int, len(m))
	for i := range m {
		for j := range m {
			sum := 0
			for _, row := range m[:i+1] {
				sum += row[j]
			}
			if sum == 1 {
				t[i] = append(t[i], j)
			}
		}
	}
	return t
}

func wantTriangle(t *testing.T, table [][]int) bool {
	t.Helper()
	want := looksLikeTriangle(table)
	if got := impl.IsTriangle(table); got != want {
		t.Fatalf("IsTriangle of %v: %t", table, got)
	}
	return want
}

func TestIsTriangleAmongAllTables(t *testing.T) {
	count := 0
	var fill func(place int, table [][]int)
	fill = func(place int, table [][]int) {
		if place == 6 {
			if wantTriangle(t, table) {
				count++
			}
			return
		}
		for v := -1; v <= 3; v++ {
			i := []int{0, 1, 1, 2, 2, 2}[place]
			table[i][place-i*(i+1)/2] = v
			fill(place+1, table)
		}
	}
	fill(0, [][]int{{0}, {0, 0}, {0, 0, 0}})
	known := map[string]int{}
	want := 0
	for _, row := range risingRows(3, 0, 3) {
		want += trianglesUnder(row, known)
	}
	if count != want {
		t.Errorf("%d triangles found instead of %d", count, want)
	}
}

func TestIsTriangleAtTheEndsOfRows(t *testing.T) {
	for low := -3; low <= impl.MaxRow+2; low++ {
		wantTriangle(t, [][]int{{low}})
		for high := -3; high <= impl.MaxRow+2; high++ {
			for top := -3; top <= impl.MaxRow+2; top++ {
				wantTriangle(t, [][]int{{top}, {low, high}})
			}
		}
	}
}

func TestIsTriangleBesideTriangles(t *testing.T) {
	for _, row := range someRows() {
		if len(row) < 4 || row[0] > 2 {
			continue
		}
		table := beginnings(row)
		if !impl.IsTriangle(table) {
			t.Fatalf("IsTriangle of %v: false", table)
		}
		for i := range table {
			for k := range table[i] {
				for _, v := range []int{-1, 0, table[i][k] - 1, table[i][k] + 1, impl.MaxRow, impl.MaxRow + 1} {
					changed := copyTable(table)
					changed[i][k] = v
					wantTriangle(t, changed)
				}
			}
			changed := copyTable(table)
			changed[i] = changed[i][:i]
			wantTriangle(t, changed)
			changed[i] = append(slices.Clone(table[i]), impl.MaxRow)
			wantTriangle(t, changed)
		}
	}
}

func TestTrianglesAreRequired(t *testing.T) {
	for _, table := range notTriangles() {
		name := fmt.Sprint(table[:min(len(table), 7)])
		if impl.IsTriangle(table) {
			t.Errorf("IsTriangle of %s: true", name)
		}
		m, ok := impl.FromTriangle(table)
		wantNoTable(t, "FromTriangle of "+name, m, ok)
		if count, ok := impl.DescendsOf(table); count != 0 || ok {
			t.Errorf("DescendsOf of %s: %d, %t", name, count, ok)
		}
	}
}

func TestTrianglesAndSignsUndoEachOther(t *testing.T) {
	upToSide(t, func(t *testing.T, m [][]int) {
		triangle, ok := impl.TriangleOf(m)
		wantTable(t, named("TriangleOf", m), triangle, ok, triangleWanted(m))
		if !impl.IsTriangle(triangle) {
			t.Fatalf("IsTriangle of %v: false", triangle)
		}
		back, ok := impl.FromTriangle(triangle)
		wantTable(t, named("FromTriangle", triangle), back, ok, m)
	})
}

func TestFromTriangleWithOtherLastRows(t *testing.T) {
	for _, row := range someRows() {
		m, ok := impl.FromTriangle(beginnings(row))
		if row[len(row)-1] == len(row)-1 {
			wantTable(t, named("FromTriangle up to", row), m, ok, identity(len(row)))
		} else {
			wantNoTable(t, named("FromTriangle up to", row), m, ok)
		}
	}
	for _, table := range [][][]int{{{1}, {0, 2}}, {{2}, {1, 2}}, {{1}, {0, 2}, {0, 1, 3}}, {{3}, {2, 3}, {1, 2, 3}}, {{2}, {1, 2}, {0, 2, 3}}} {
		m, ok := impl.FromTriangle(table)
		wantNoTable(t, named("FromTriangle", table), m, ok)
	}
}

func TestRowsAbove(t *testing.T) {
	for _, row := range someRows() {
		rows, ok := impl.RowsAbove(row)
		wantTable(t, named("RowsAbove", row), rows, ok, rowsThatStandAbove(row))
	}
}

func TestRowsAboveKnownRows(t *testing.T) {
	for _, v := range []int{0, 7, impl.MaxRow} {
		rows, ok := impl.RowsAbove([]int{v})
		wantTable(t, named("RowsAbove one number", v), rows, ok, nil)
	}
	rows, ok := impl.RowsAbove([]int{0, 1, 2})
	wantTable(t, "RowsAbove 0 1 2", rows, ok, [][]int{{0, 1}, {0, 2}, {1, 2}})
	rows, ok = impl.RowsAbove([]int{2, 4, 5})
	wantTable(t, "RowsAbove 2 4 5", rows, ok, [][]int{{2, 4}, {2, 5}, {3, 4}, {3, 5}, {4, 5}})
}

func TestCountUnder(t *testing.T) {
	known := map[string]int{}
	for _, row := range someRows() {
		got, ok := impl.CountUnder(row)
		wantNumber(t, named("CountUnder", row), got, ok, trianglesUnder(row, known))
	}
}

func TestCountUnderIsCountSigns(t *testing.T) {
	for n := 1; n <= impl.MaxSide; n++ {
		want, _ := impl.CountSigns(n)
		for low := 0; low+n-1 <= impl.MaxRow; low++ {
			row := risingRows(n, low, low+n-1)[0]
			got, ok := impl.CountUnder(row)
			wantNumber(t, named("CountUnder", row), got, ok, want)
		}
	}
}

func TestFirstUnder(t *testing.T) {
	for _, row := range someRows() {
		want := [][]int{row}
		for len(want[0]) > 1 {
			want = append([][]int{rowsThatStandAbove(want[0])[0]}, want...)
		}
		got, ok := impl.FirstUnder(row)
		wantTable(t, named("FirstUnder", row), got, ok, want)
		if !impl.IsTriangle(got) {
			t.Fatalf("IsTriangle of %v: false", got)
		}
	}
}

func TestRowsAreRequired(t *testing.T) {
	for _, row := range notRows() {
		name := fmt.Sprint(row[:min(len(row), 7)])
		rows, ok := impl.RowsAbove(row)
		wantNoTable(t, "RowsAbove of "+name, rows, ok)
		triangle, ok := impl.FirstUnder(row)
		wantNoTable(t, "FirstUnder of "+name, triangle, ok)
		if count, ok := impl.CountUnder(row); count != 0 || ok {
			t.Errorf("CountUnder of %s: %d, %t", name, count, ok)
		}
	}
}

func TestAllSigns(t *testing.T) {
	for n := 1; n <= impl.MaxListed; n++ {
		list, ok := impl.AllSigns(n)
		want := signMatrices(n)
		if !ok || len(list) != len(want) {
			t.Fatalf("AllSigns of %d: %d matrices, %t", n, len(list), ok)
		}
		for i, m := range list {
			wantTable(t, named("AllSigns", n), m, ok, want[i])
		}
	}
}

// sizesBeside lists sizes out of 1..greatest.
func sizesBeside(greatest int) []int {
	return []int{0, -1, -2, greatest + 1, greatest + 2, 63, 64, 1000, math.MaxInt, math.MinInt}
}

func TestLimits(t *testing.T) {
	if impl.MaxSide != 6 || impl.MaxListed != 4 || impl.MaxRow != 15 {
		t.Error("limits", impl.MaxSide, impl.MaxListed, impl.MaxRow)
	}
}

func TestSizesAreLimited(t *testing.T) {
	for _, n := range sizesBeside(impl.MaxListed) {
		if list, ok := impl.AllSigns(n); len(list) != 0 || ok {
			t.Errorf("AllSigns of %d: %d matrices, %t", n, len(list), ok)
		}
	}
	for _, n := range sizesBeside(impl.MaxSide) {
		for _, rank := range []int{0, 1, -1, 7435, 218347, math.MaxInt, math.MinInt} {
			m, ok := impl.SignsAt(n, rank)
			wantNoTable(t, named("SignsAt", []int{n, rank}), m, ok)
		}
	}
	for _, c := range countCalls() {
		for _, n := range sizesBeside(c.greatest) {
			if counts, ok := c.call(n); len(counts) != 0 || ok {
				t.Errorf("%s of %d: %v, %t", c.name, n, counts, ok)
			}
		}
	}
}

func TestRanks(t *testing.T) {
	for n := 1; n <= impl.MaxSide; n++ {
		list := signMatrices(n)
		for rank, m := range list {
			got, ok := impl.RankSigns(m)
			wantNumber(t, named("RankSigns", m), got, ok, rank)
			at, ok := impl.SignsAt(n, rank)
			wantTable(t, named("SignsAt", []int{n, rank}), at, ok, m)
			next, ok := impl.NextSigns(m)
			if rank+1 < len(list) {
				wantTable(t, named("NextSigns", m), next, ok, list[rank+1])
			} else {
				wantNoTable(t, named("NextSigns of the last one", m), next, ok)
			}
		}
		for _, rank := range []int{-1, len(list), len(list) + 1, math.MaxInt, math.MinInt} {
			m, ok := impl.SignsAt(n, rank)
			wantNoTable(t, named("SignsAt", []int{n, rank}), m, ok)
		}
	}
}

func TestFirstAndLastSigns(t *testing.T) {
	for n := 1; n <= impl.MaxSide; n++ {
		last := identity(n)
		first := copyTable(last)
		slices.Reverse(first)
		count, _ := impl.CountSigns(n)
		got, ok := impl.SignsAt(n, 0)
		wantTable(t, named("SignsAt the first rank", n), got, ok, first)
		got, ok = impl.SignsAt(n, count-1)
		wantTable(t, named("SignsAt the last rank", n), got, ok, last)
		rank, ok := impl.RankSigns(first)
		wantNumber(t, "RankSigns of the first one", rank, ok, 0)
		rank, ok = impl.RankSigns(last)
		wantNumber(t, "RankSigns of the last one", rank, ok, count-1)
	}
}

func TestChapter2RequiresSigns(t *testing.T) {
	for _, m := range notSigns() {
		triangle, ok := impl.TriangleOf(m)
		wantNoTable(t, named("TriangleOf", m), triangle, ok)
		next, ok := impl.NextSigns(m)
		wantNoTable(t, named("NextSigns", m), next, ok)
		if rank, ok := impl.RankSigns(m); rank != 0 || ok {
			t.Errorf("RankSigns of %v: %d, %t", m, rank, ok)
		}
	}
}

// countCall is a function that counts the sign matrices of n rows, n in 1..greatest, by what score tells of each one.
type countCall struct {
	name     string
	call     func(n int) ([]int, bool)
	greatest int
	score    func(m [][]int) int
}

func firstScore(m [][]int) int { return slices.Index(m[0], 1) }

func minusScore(m [][]int) int {
	count := 0
	for _, row := range m {
		for _, v := range row {
			if v == -1 {
				count++
			}
		}
	}
	return count
}

func inversionScore(m [][]int) int {
	sum := 0
	for i, row := range m {
		for j, v := range row {
			for _, later := range m[i+1:] {
				for _, w := range later[:j] {
					sum += v * w
				}
			}
		}
	}
	return sum
}

func countCalls() []countCall {
	return []countCall{
		{"CountByFirst", impl.CountByFirst, impl.MaxSide, firstScore},
		{"CountByMinus", impl.CountByMinus, 5, minusScore},
		{"CountByInversions", impl.CountByInversions, 5, inversionScore},
	}
}

func TestCountsAgreeWithLists(t *testing.T) {
	for _, c := range countCalls() {
		for n := 1; n <= c.greatest; n++ {
			var want []int
			for _, m := range signMatrices(n) {
				score := c.score(m)
				for len(want) <= score {
					want = append(want, 0)
				}
				want[score]++
			}
			got, ok := c.call(n)
			if !ok || !slices.Equal(got, want) {
				t.Errorf("%s of %d: %v, %t instead of %v", c.name, n, got, ok, want)
			}
		}
	}
}

func TestCountsAgreeWithTheFormula(t *testing.T) {
	for _, c := range countCalls() {
		for n := 1; n <= c.greatest; n++ {
			counts, ok := c.call(n)
			wantAllShared(t, named(c.name, n), counts, ok, n)
		}
	}
}

func TestCountsHaveKnownLengths(t *testing.T) {
	lengths := [][]int{{1, 2, 3, 4, 5, 6}, {1, 1, 2, 3, 5}, {1, 2, 4, 7, 11}}
	for i, c := range countCalls() {
		for k, want := range lengths[i] {
			if counts, ok := c.call(k + 1); len(counts) != want || !ok {
				t.Errorf("%s of %d: %v, %t", c.name, k+1, counts, ok)
			}
		}
	}
}

func TestDescendsOf(t *testing.T) {
	upToSide(t, func(t *testing.T, m [][]int) {
		n := len(m)
		triangle := triangleWanted(m)
		got, ok := impl.DescendsOf(triangle)
		wantNumber(t, named("DescendsOf", triangle), got, ok, n*(n-1)/2-inversionScore(m))
	})
	for _, row := range someRows() {
		// Each number of a triangle of beginnings is equal to the one behind it.
		got, ok := impl.DescendsOf(beginnings(row))
		wantNumber(t, named("DescendsOf up to", row), got, ok, len(row)*(len(row)-1)/2)
	}
}

func TestDescendsOfKnownTriangles(t *testing.T) {
	for _, c := range []struct {
		triangle [][]int
		want     int
	}{
		{[][]int{{0}}, 0},
		{[][]int{{impl.MaxRow}}, 0},
		{[][]int{{3}, {3, 9}}, 1},
		{[][]int{{4}, {3, 9}}, 0},
		{[][]int{{9}, {3, 9}}, 0},
		{[][]int{{5}, {2, 8}, {2, 7, 15}}, 1},
		{[][]int{{2}, {2, 8}, {0, 8, 15}}, 2},
		{[][]int{{5}, {4, 8}, {0, 4, 15}}, 0},
	} {
		got, ok := impl.DescendsOf(c.triangle)
		wantNumber(t, named("DescendsOf", c.triangle), got, ok, c.want)
	}
}

func TestGivenExampleOfTriangles(t *testing.T) {
	m, _ := impl.ParseSigns("0+0/+-+/0+0")
	triangle, ok := impl.TriangleOf(m)
	wantTable(t, "TriangleOf", triangle, ok, [][]int{{1}, {0, 2}, {0, 1, 2}})
	count, ok := impl.CountUnder([]int{0, 2})
	wantNumber(t, "CountUnder 0 2", count, ok, 3)
	count, ok = impl.CountUnder([]int{0, 1, 2})
	wantNumber(t, "CountUnder 0 1 2", count, ok, 7)
	counts, ok := impl.CountByFirst(3)
	wantTable(t, "CountByFirst 3", [][]int{counts}, ok, [][]int{{2, 3, 2}})
	minus, ok := impl.CountByMinus(5)
	wantTable(t, "CountByMinus 5", [][]int{minus}, ok, [][]int{{120, 200, 94, 14, 1}})
}

// triangleCalls are the functions of chapter 2 that make a table of a table.
func triangleCalls() []tableCall {
	return []tableCall{
		{"TriangleOf", impl.TriangleOf},
		{"FromTriangle", impl.FromTriangle},
		{"NextSigns", impl.NextSigns},
	}
}

// asTable lets a function of a row stand among those of tables of one row.
func asTable(call func(row []int) ([][]int, bool)) func(m [][]int) ([][]int, bool) {
	return func(m [][]int) ([][]int, bool) { return call(m[0]) }
}

func wantNewMemory(t *testing.T, c tableCall, m [][]int) {
	t.Helper()
	argument := guarded(m)
	got, _ := c.call(argument)
	if !rowsApart(got) || !untouched(argument, m) {
		t.Fatalf("%s of %v shares or changes memory", c.name, m)
	}
	again, _ := c.call(argument)
	fresh, _ := c.call(copyTable(m))
	wantTable(t, named(c.name, m), again, true, fresh)
}

// wantNewMemoryOfSigns checks calls with valid and invalid matrices.
func wantNewMemoryOfSigns(t *testing.T, calls []tableCall) {
	t.Helper()
	for _, m := range argumentsOf() {
		for _, c := range calls {
			wantNewMemory(t, c, m)
		}
	}
}

func TestNoTriangleIsChanged(t *testing.T) {
	list := append(argumentsOf(), notTriangles()...)
	for n := 1; n <= 4; n++ {
		for _, m := range signMatrices(n) {
			list = append(list, triangleWanted(m))
		}
	}
	for _, m := range list {
		for _, c := range triangleCalls() {
			wantNewMemory(t, c, m)
		}
		argument := guarded(m)
		impl.IsTriangle(argument)
		impl.RankSigns(argument)
		impl.DescendsOf(argument)
		if !untouched(argument, m) {
			t.Fatalf("%v is changed", m)
		}
	}
}

func TestNoRowIsChanged(t *testing.T) {
	for _, row := range append(someRows(), notRows()...) {
		m := [][]int{row}
		wantNewMemory(t, tableCall{"RowsAbove", asTable(impl.RowsAbove)}, m)
		wantNewMemory(t, tableCall{"FirstUnder", asTable(impl.FirstUnder)}, m)
		argument := guardedRow(row)
		impl.CountUnder(argument)
		if !rowUntouched(argument, row) {
			t.Fatalf("%v is changed", row)
		}
	}
}

func TestListedSignsAreNew(t *testing.T) {
	for n := 1; n <= impl.MaxListed; n++ {
		wantNewTables(t, named("AllSigns", n), func() ([][][]int, bool) { return impl.AllSigns(n) }, signMatrices(n))
	}
}

func TestCountsAndRanksAreNew(t *testing.T) {
	for _, c := range countCalls() {
		for n := 1; n <= c.greatest; n++ {
			wantNewRows(t, named(c.name, n), func() ([][]int, bool) { return ofCounts(c.call)(n) })
		}
	}
	for n := 1; n <= impl.MaxSide; n++ {
		wantNewRows(t, named("SignsAt", n), func() ([][]int, bool) { return impl.SignsAt(n, 0) })
	}
}
