package tests

import (
	"fmt"
	"math"
	"slices"
	"testing"

	"loop.example/g01123/impl"
)

// joinWanted joins a pattern as the document does.
func joinWanted(p []int, i int) []int {
	next := i + 1
	if next == len(p) {
		next = 0
	}
	q := slices.Clone(p)
	if p[i] != next {
		a, b := p[i], p[next]
		q[i], q[next], q[a], q[b] = next, i, b, a
	}
	return q
}

func wordWanted(p []int, word []int) []int {
	for _, i := range word {
		p = joinWanted(p, i)
	}
	return p
}

// rankWanted looks for a pattern among all of as many links.
func rankWanted(p []int) int {
	return slices.IndexFunc(patternsWanted(len(p)/2), func(q []int) bool { return slices.Equal(p, q) })
}

func operatorWanted(n, i int) [][]int {
	all := patternsWanted(n)
	rows := filled(len(all), 0)
	for rank, p := range all {
		rows[rankWanted(joinWanted(p, i))][rank] = 1
	}
	return rows
}

func sumOperatorWanted(n int) [][]int {
	sum := operatorWanted(n, 0)
	for i := 1; i < 2*n; i++ {
		sum = eachPlace(sum, operatorWanted(n, i), func(v, w int) int { return v + w })
	}
	return sum
}

func appliedWanted(rows [][]int, v []int) []int {
	var image []int
	for _, row := range rows {
		sum := 0
		for b, number := range row {
			sum += number * v[b]
		}
		image = append(image, sum)
	}
	return image
}

// times multiplies all numbers of a vector.
func times(v []int, by int) []int {
	w := slices.Clone(v)
	for rank := range w {
		w[rank] *= by
	}
	return w
}

// solutions are the known numbers of loops for each pattern of 1..MaxPairs links.
func solutions() [][]int {
	return [][]int{nil, {1}, {1, 1}, {2, 1, 1, 2, 1}, {7, 3, 3, 3, 1, 3, 1, 3, 1, 7, 3, 3, 3, 1}}
}

// eachPattern calls check for all patterns of 1..most links.
func eachPattern(most int, check func(p []int)) {
	for n := 1; n <= most; n++ {
		for _, p := range patternsWanted(n) {
			check(p)
		}
	}
}

// brief keeps long lists out of a message.
func brief(p []int) string { return fmt.Sprint(p[:min(len(p), 15)]) }

// anyNumbers stand for a rank or a point where another argument makes a call fail.
func anyNumbers() []int { return []int{0, 1, -1, math.MaxInt, math.MinInt} }

func TestRanksAndPatternsUndoEachOther(t *testing.T) {
	for n := 1; n <= impl.MaxPairs; n++ {
		all, ok := impl.AllPatterns(n)
		wantTable(t, named("AllPatterns", n), all, ok, patternsWanted(n))
		for rank, want := range all {
			p, ok := impl.PatternWith(n, rank)
			wantRow(t, fmt.Sprintf("PatternWith of %d, %d", n, rank), p, ok, want)
			back, ok := impl.RankPattern(want)
			wantNumber(t, named("RankPattern", want), back, ok, rank)
		}
	}
}

func TestPatternWithFails(t *testing.T) {
	for n := 1; n <= impl.MaxPairs; n++ {
		count, _ := impl.CountPatterns(n)
		for _, rank := range append(numbersBeside(0, count-1), -count, 2*count) {
			p, ok := impl.PatternWith(n, rank)
			wantNoRow(t, fmt.Sprintf("PatternWith of %d, %d", n, rank), p, ok)
		}
	}
	for _, n := range append(sizesBeside(impl.MaxPairs), impl.MaxSide) {
		for _, rank := range anyNumbers() {
			p, ok := impl.PatternWith(n, rank)
			wantNoRow(t, fmt.Sprintf("PatternWith of %d, %d", n, rank), p, ok)
		}
	}
}

func TestRankPatternFails(t *testing.T) {
	for n := impl.MaxPairs + 1; n <= impl.MaxSide; n++ {
		for _, p := range patternsWanted(n) {
			rank, ok := impl.RankPattern(p)
			wantNoNumber(t, named("RankPattern", p), rank, ok)
		}
	}
	for _, p := range notPatterns() {
		rank, ok := impl.RankPattern(p)
		wantNoNumber(t, "RankPattern of "+brief(p), rank, ok)
	}
}

func TestJoinAt(t *testing.T) {
	eachPattern(impl.MaxSide, func(p []int) {
		for i := range p {
			q, ok := impl.JoinAt(p, i)
			wantRow(t, fmt.Sprintf("JoinAt of %v, %d", p, i), q, ok, joinWanted(p, i))
			next := (i + 1) % len(p)
			if !looksLikePattern(q) || q[i] != next || q[next] != i {
				t.Fatalf("JoinAt of %v, %d makes %v", p, i, q)
			}
			again, ok := impl.JoinAt(q, i)
			wantRow(t, fmt.Sprintf("JoinAt of %v, %d", q, i), again, ok, q)
		}
	})
}

func TestKnownJoins(t *testing.T) {
	for _, c := range []struct {
		from string
		i    int
		to   string
	}{
		{"()", 0, "()"}, {"()", 1, "()"},
		// Linked already, at the last point too.
		{"()()", 0, "()()"}, {"()()", 2, "()()"}, {"(())", 1, "(())"}, {"(())", 3, "(())"}, {"(()())", 5, "(()())"}, {"((()))", 5, "((()))"}, {"((()))", 2, "((()))"},
		// One link inside the other.
		{"(())", 0, "()()"}, {"(())", 2, "()()"}, {"((()))", 0, "()()()"}, {"((()))", 1, "(()())"}, {"((()))", 3, "(()())"}, {"((()))", 4, "()()()"}, {"(()())", 0, "()(())"}, {"(()())", 4, "(())()"},
		// Links next to each other.
		{"()()", 1, "(())"}, {"()()()", 1, "(())()"}, {"()()()", 3, "()(())"}, {"(()())", 2, "((()))"}, {"(())()", 3, "(()())"}, {"()()()()", 3, "()(())()"},
		// Round the circle.
		{"()()", 3, "(())"}, {"()()()", 5, "((()))"}, {"(())()", 5, "(()())"}, {"()(())", 5, "(()())"}, {"()()()()()()", 11, "((()()()()))"}, {"((()))((()))", 11, "((())()(()))"},
	} {
		q, ok := impl.JoinAt(patternOf(t, c.from), c.i)
		wantRow(t, fmt.Sprintf("JoinAt of %s, %d", c.from, c.i), q, ok, patternOf(t, c.to))
	}
}

// TestJoinsTurn uses that no point of the circle is different from the others.
func TestJoinsTurn(t *testing.T) {
	eachPattern(impl.MaxSide, func(p []int) {
		turned, _ := impl.TurnPattern(p, 1)
		for i := range p {
			q, _ := impl.JoinAt(p, i)
			want, _ := impl.TurnPattern(q, 1)
			got, ok := impl.JoinAt(turned, (i+1)%len(p))
			wantRow(t, fmt.Sprintf("JoinAt of %v, turned, %d", p, i), got, ok, want)
		}
	})
}

func TestJoinAtFails(t *testing.T) {
	eachPattern(impl.MaxSide, func(p []int) {
		for _, i := range append(numbersBeside(0, len(p)-1), -len(p), 2*len(p)) {
			q, ok := impl.JoinAt(p, i)
			wantNoRow(t, fmt.Sprintf("JoinAt of %v, %d", p, i), q, ok)
		}
	})
	for _, p := range notPatterns() {
		for _, i := range anyNumbers() {
			q, ok := impl.JoinAt(p, i)
			wantNoRow(t, fmt.Sprintf("JoinAt of %s, %d", brief(p), i), q, ok)
		}
	}
}

// wantJoinedByWord checks that a word joins as its points do, one after the other.
func wantJoinedByWord(t *testing.T, p, word []int) {
	t.Helper()
	want, fine := slices.Clone(p), true
	for _, i := range word {
		q, ok := impl.JoinAt(want, i)
		want, fine = q, fine && ok
	}
	got, ok := impl.JoinWord(p, word)
	what := fmt.Sprintf("JoinWord of %v, %v", p, word)
	wantRow(t, what, got, ok && fine, want)
	wantRow(t, what, got, ok, wordWanted(p, word))
}

func TestJoinWordOfShortWords(t *testing.T) {
	eachPattern(impl.MaxPairs, func(p []int) {
		for size := range 4 {
			tuples(size, len(p)-1, func(word []int) { wantJoinedByWord(t, p, word) })
		}
	})
}

// someWord tells points in a rough order.
func someWord(points, count, seed int) []int {
	var word []int
	for k := range count {
		seed = (seed*7 + k*k + 3) % 1009
		word = append(word, seed%points)
	}
	return word
}

func TestJoinWordOfLongWords(t *testing.T) {
	seed := 0
	eachPattern(impl.MaxSide, func(p []int) {
		for _, count := range []int{0, 1, 5, 12, 99, 100} {
			wantJoinedByWord(t, p, someWord(len(p), count, seed))
		}
		seed++
	})
}

func TestEmptyWords(t *testing.T) {
	eachPattern(impl.MaxSide, func(p []int) {
		for _, word := range [][]int{nil, {}} {
			q, ok := impl.JoinWord(p, word)
			wantRow(t, named("JoinWord without points", p), q, ok, p)
		}
	})
}

// TestOrderOfWords has words whose points make another pattern in the opposite order.
func TestOrderOfWords(t *testing.T) {
	for _, c := range []struct {
		from string
		word []int
		to   string
	}{
		{"()()", []int{0, 1}, "(())"}, {"()()", []int{1, 0}, "()()"},
		{"()()()", []int{1, 2}, "()()()"}, {"()()()", []int{2, 1}, "(())()"},
		{"((()))", []int{1, 0}, "()(())"}, {"((()))", []int{0, 1}, "(())()"},
		{"()()()", []int{5, 0}, "()()()"}, {"()()()", []int{0, 5}, "((()))"},
	} {
		q, ok := impl.JoinWord(patternOf(t, c.from), c.word)
		wantRow(t, fmt.Sprintf("JoinWord of %s, %v", c.from, c.word), q, ok, patternOf(t, c.to))
	}
}

func TestLongestWords(t *testing.T) {
	eachPattern(impl.MaxSide, func(p []int) {
		for _, count := range []int{101, 102, 1000, 100000} {
			for _, word := range [][]int{make([]int, count), slices.Repeat([]int{len(p) - 1}, count)} {
				q, ok := impl.JoinWord(p, word)
				wantNoRow(t, fmt.Sprintf("JoinWord of %v and %d points", p, count), q, ok)
				q, ok = impl.JoinWord(p, word[:100])
				wantRow(t, fmt.Sprintf("JoinWord of %v and 100 points", p), q, ok, joinWanted(p, word[0]))
			}
		}
	})
}

func TestJoinWordFails(t *testing.T) {
	eachPattern(impl.MaxSide, func(p []int) {
		for _, i := range append(numbersBeside(0, len(p)-1), -len(p), 2*len(p)) {
			for _, word := range [][]int{{i}, {i, 0}, {0, i}, {1, i, 0}, append(make([]int, 99), i), append([]int{i}, make([]int, 99)...)} {
				q, ok := impl.JoinWord(p, word)
				wantNoRow(t, fmt.Sprintf("JoinWord of %v, %s", p, brief(word)), q, ok)
			}
		}
	})
	for _, p := range notPatterns() {
		for _, word := range [][]int{nil, {}, {0}, {1}, {0, 1, 0}, {-1}, make([]int, 100), make([]int, 101)} {
			q, ok := impl.JoinWord(p, word)
			wantNoRow(t, fmt.Sprintf("JoinWord of %s, %s", brief(p), brief(word)), q, ok)
		}
	}
}

func TestSmallArcs(t *testing.T) {
	eachPattern(impl.MaxSide, func(p []int) {
		var want []int
		for i := range p {
			if q, ok := impl.JoinAt(p, i); ok && slices.Equal(q, p) {
				want = append(want, i)
			}
		}
		arcs, ok := impl.SmallArcs(p)
		wantRow(t, named("SmallArcs", p), arcs, ok, want)
	})
	for _, p := range notPatterns() {
		arcs, ok := impl.SmallArcs(p)
		wantNoRow(t, "SmallArcs of "+brief(p), arcs, ok)
	}
}

func TestKnownArcsAndNests(t *testing.T) {
	for _, c := range []struct {
		text string
		arcs []int
		nest int
	}{
		{"()", []int{0, 1}, 1}, {"()()", []int{0, 2}, 1}, {"(())", []int{1, 3}, 2},
		{"()()()", []int{0, 2, 4}, 1}, {"()(())", []int{0, 3}, 2}, {"(())()", []int{1, 4}, 2}, {"(()())", []int{1, 3, 5}, 2}, {"((()))", []int{2, 5}, 3},
		{"(()(()))", []int{1, 4, 7}, 3}, {"((())())", []int{2, 5, 7}, 3}, {"()((()))", []int{0, 4}, 3}, {"((()))()", []int{2, 6}, 3}, {"(())(())", []int{1, 5}, 2},
		{"()()()()()()", []int{0, 2, 4, 6, 8, 10}, 1}, {"(((((())))))", []int{5, 11}, 6}, {"(()())(()())", []int{1, 3, 7, 9}, 2}, {"(((())))(())", []int{3, 9}, 4}, {"(())(((())))", []int{1, 7}, 4},
	} {
		p := patternOf(t, c.text)
		arcs, ok := impl.SmallArcs(p)
		wantRow(t, "SmallArcs of "+c.text, arcs, ok, c.arcs)
		nest, ok := impl.NestOf(p)
		wantNumber(t, "NestOf "+c.text, nest, ok, c.nest)
	}
}

// nestWanted tries all lists of links of which each next one lies inside that before it, between two points.
func nestWanted(p []int, first, last int) int {
	most := 0
	for i := first; i <= last; i++ {
		if p[i] > i && p[i] <= last {
			most = max(most, 1+nestWanted(p, i+1, p[i]-1))
		}
	}
	return most
}

func TestNestOf(t *testing.T) {
	eachPattern(impl.MaxSide, func(p []int) {
		nest, ok := impl.NestOf(p)
		wantNumber(t, named("NestOf", p), nest, ok, nestWanted(p, 0, len(p)-1))
	})
	for _, p := range notPatterns() {
		nest, ok := impl.NestOf(p)
		wantNoNumber(t, "NestOf "+brief(p), nest, ok)
	}
}

func TestOperatorOf(t *testing.T) {
	for n := 1; n <= impl.MaxPairs; n++ {
		for i := range 2 * n {
			rows, ok := impl.OperatorOf(n, i)
			wantTable(t, fmt.Sprintf("OperatorOf %d, %d", n, i), rows, ok, operatorWanted(n, i))
		}
	}
}

// TestOperatorsJoinRanks goes from each rank to that which the operator tells.
func TestOperatorsJoinRanks(t *testing.T) {
	for n := 1; n <= impl.MaxPairs; n++ {
		for i := range 2 * n {
			rows, _ := impl.OperatorOf(n, i)
			for rank := range rows {
				p, _ := impl.PatternWith(n, rank)
				q, _ := impl.JoinAt(p, i)
				joined, ok := impl.RankPattern(q)
				want := make([]int, len(rows))
				want[joined] = 1
				wantRow(t, fmt.Sprintf("column %d of the operator of %d, %d", rank, n, i), columnOf(rows, rank), ok, want)
			}
		}
	}
}

func TestOperatorOfFails(t *testing.T) {
	for n := 1; n <= impl.MaxPairs; n++ {
		for _, i := range append(numbersBeside(0, 2*n-1), -2*n, 4*n) {
			rows, ok := impl.OperatorOf(n, i)
			wantNoTable(t, fmt.Sprintf("OperatorOf %d, %d", n, i), rows, ok)
		}
	}
	for _, n := range append(sizesBeside(impl.MaxPairs), impl.MaxSide, math.MinInt+2) {
		for _, i := range anyNumbers() {
			rows, ok := impl.OperatorOf(n, i)
			wantNoTable(t, fmt.Sprintf("OperatorOf %d, %d", n, i), rows, ok)
		}
		rows, ok := impl.SumOperator(n)
		wantNoTable(t, named("SumOperator", n), rows, ok)
	}
}

func TestSumOperator(t *testing.T) {
	for n := 1; n <= impl.MaxPairs; n++ {
		rows, ok := impl.SumOperator(n)
		wantTable(t, named("SumOperator", n), rows, ok, sumOperatorWanted(n))
		sum, _ := impl.OperatorOf(n, 0)
		for i := 1; i < 2*n; i++ {
			part, _ := impl.OperatorOf(n, i)
			sum = eachPlace(sum, part, func(v, w int) int { return v + w })
		}
		wantTable(t, named("the sum of OperatorOf", n), sum, true, rows)
		for rank := range rows {
			wantNumber(t, named("sum of a column", n), sumOfTable([][]int{columnOf(rows, rank)}), ok, 2*n)
		}
	}
}

func TestKnownSumOperators(t *testing.T) {
	for k, want := range [][][]int{
		{{2}},
		{{2, 2}, {2, 2}},
		{{3, 2, 2, 0, 2}, {1, 2, 0, 1, 0}, {1, 0, 2, 1, 0}, {0, 2, 2, 3, 2}, {1, 0, 0, 1, 2}},
	} {
		rows, ok := impl.SumOperator(k + 1)
		wantTable(t, named("SumOperator", k+1), rows, ok, want)
	}
}

// mixed lists numbers in 0..most in a rough order, with the least and the greatest one among them.
func mixed(size, most, seed int) []int {
	v := make([]int, size)
	for k := range v {
		seed = (seed*40503 + 7*k + 11) % 1000003
		v[k] = min(most, seed%(most+most/4+1))
		if seed%5 == 0 {
			v[k] = 0
		}
	}
	return v
}

func mixedRows(size, most, seed int) [][]int {
	rows := make([][]int, size)
	for a := range rows {
		rows[a] = mixed(size, most, seed+a)
	}
	return rows
}

func wantApplied(t *testing.T, rows [][]int, v []int) {
	t.Helper()
	image, ok := impl.ApplyOperator(rows, v)
	wantRow(t, fmt.Sprintf("ApplyOperator of %v, %v", rows, v), image, ok, appliedWanted(rows, v))
}

func TestApplyOperator(t *testing.T) {
	for size := 1; size <= 14; size++ {
		for seed := range 50 {
			wantApplied(t, mixedRows(size, 100, seed), mixed(size, 1000000, 100+seed))
		}
		for _, number := range []int{0, 1, 99, 100} {
			for _, v := range []int{0, 1, 999999, 1000000} {
				wantApplied(t, filled(size, number), slices.Repeat([]int{v}, size))
			}
		}
		wantApplied(t, identity(size), mixed(size, 1000000, size))
	}
}

func TestKnownApplied(t *testing.T) {
	for _, c := range []struct {
		rows    [][]int
		v, want []int
	}{
		{[][]int{{7}}, []int{6}, []int{42}}, {[][]int{{100}}, []int{1000000}, []int{100000000}}, {[][]int{{0}}, []int{5}, []int{0}}, {[][]int{{5}}, []int{0}, []int{0}},
		{[][]int{{1, 2}, {3, 4}}, []int{5, 6}, []int{17, 39}}, {[][]int{{0, 1}, {0, 0}}, []int{8, 9}, []int{9, 0}}, {[][]int{{2, 2}, {2, 2}}, []int{1, 1}, []int{4, 4}},
		{filled(14, 100), slices.Repeat([]int{1000000}, 14), slices.Repeat([]int{1400000000}, 14)},
	} {
		image, ok := impl.ApplyOperator(c.rows, c.v)
		wantRow(t, fmt.Sprintf("ApplyOperator of %v, %v", c.rows, c.v), image, ok, c.want)
	}
}

func TestApplyOperatorToAllSmallTables(t *testing.T) {
	tablesOf(2, 0, 3, func(rows [][]int) {
		tuples(2, 3, func(v []int) { wantApplied(t, rows, v) })
	})
}

// wantNotApplied checks a table with vectors of several sizes.
func wantNotApplied(t *testing.T, rows [][]int, sizes ...int) {
	t.Helper()
	for _, size := range sizes {
		image, ok := impl.ApplyOperator(rows, make([]int, size))
		wantNoRow(t, fmt.Sprintf("ApplyOperator of %s and %d numbers", short(rows), size), image, ok)
	}
}

func TestApplyOperatorRequiresTables(t *testing.T) {
	for size := 1; size <= 14; size++ {
		for place := range size * size {
			for _, number := range numbersBeside(0, 100) {
				rows := filled(size, 1)
				rows[place/size][place%size] = number
				wantNotApplied(t, rows, size)
			}
		}
		for _, rows := range misshapen(filled(size, 2)) {
			wantNotApplied(t, rows, 0, 1, size-1, size, size+1)
		}
	}
	for _, rows := range [][][]int{nil, {}, {nil}, {{}}, {{}, {}}, {{1, 2}}, {{1}, {2}}, {{1, 2, 3}, {4, 5, 6}}, {{1, 2}, {3}}, {{1}, {2, 3}}} {
		wantNotApplied(t, rows, 0, 1, 2, 3)
	}
	for _, size := range []int{15, 16, 100} {
		wantNotApplied(t, filled(size, 0), 14, size)
		wantNotApplied(t, identity(size), 14, size)
	}
	wantNotApplied(t, make([][]int, 14), 0, 14)
	wantNotApplied(t, make([][]int, 100000), 0, 14, 100000)
	wantNotApplied(t, [][]int{make([]int, 100000)}, 1, 100000)
}

// notVectors lists numbers that are no vector of a size.
func notVectors(size int) [][]int {
	var list [][]int
	for _, other := range []int{0, size - 1, size + 1, 2 * size, 100000} {
		list = append(list, slices.Repeat([]int{1}, other))
	}
	for place := range size {
		for _, number := range numbersBeside(0, 1000000) {
			v := slices.Repeat([]int{1}, size)
			v[place] = number
			list = append(list, v)
		}
	}
	return append(list, slices.Repeat([]int{-1}, size), slices.Repeat([]int{1000001}, size))
}

func TestVectorsAreRequired(t *testing.T) {
	for size := 1; size <= 14; size++ {
		for _, v := range notVectors(size) {
			image, ok := impl.ApplyOperator(filled(size, 1), v)
			wantNoRow(t, fmt.Sprintf("ApplyOperator of %d rows and %s", size, brief(v)), image, ok)
		}
	}
	for n := 1; n <= impl.MaxPairs; n++ {
		for _, v := range notVectors(len(solutions()[n])) {
			wantNotFixedNor(t, n, v)
		}
	}
}

// wantNotFixedNor checks that IsFixed fails.
func wantNotFixedNor(t *testing.T, n int, v []int) {
	t.Helper()
	if is, ok := impl.IsFixed(n, v); is || ok {
		t.Errorf("IsFixed of %d, %s: %t, %t instead of a failure", n, brief(v), is, ok)
	}
}

func TestSolutionOf(t *testing.T) {
	for n := 1; n <= impl.MaxPairs; n++ {
		v, ok := impl.SolutionOf(n)
		wantRow(t, named("SolutionOf", n), v, ok, solutions()[n])
		counts, ok := impl.CountByPattern(n)
		wantRow(t, named("CountByPattern", n), counts, ok, v)
		wantAllShared(t, named("SolutionOf", n), v, ok, n)
		wantNumber(t, "the least number", slices.Min(v), ok, 1)
		rows, _ := impl.SumOperator(n)
		image, ok := impl.ApplyOperator(rows, v)
		wantRow(t, named("ApplyOperator of the solution", n), image, ok, times(v, 2*n))
		wantIsFixed(t, n, v, true)
	}
	for _, n := range append(sizesBeside(impl.MaxPairs), impl.MaxSide) {
		v, ok := impl.SolutionOf(n)
		wantNoRow(t, named("SolutionOf", n), v, ok)
	}
}

func wantIsFixed(t *testing.T, n int, v []int, want bool) {
	t.Helper()
	if is, ok := impl.IsFixed(n, v); is != want || !ok {
		t.Fatalf("IsFixed of %d, %v: %t, %t instead of %t", n, v, is, ok, want)
	}
}

func TestMultiplesAreFixed(t *testing.T) {
	for n := 1; n <= impl.MaxPairs; n++ {
		v := solutions()[n]
		most := 1000000 / slices.Max(v)
		for _, by := range []int{0, 1, 2, 3, 10, 1000, most - 1, most} {
			wantIsFixed(t, n, times(v, by), true)
		}
		wantNotFixedNor(t, n, times(v, most+1))
	}
	wantIsFixed(t, 1, []int{1000000}, true)
	wantIsFixed(t, 2, []int{1000000, 1000000}, true)
	wantIsFixed(t, 2, []int{1000000, 999999}, false)
	wantIsFixed(t, 2, []int{0, 1000000}, false)
}

// TestThereIsOneSolution tries all small vectors: just the multiples of the solution are fixed.
func TestThereIsOneSolution(t *testing.T) {
	for _, c := range []struct{ n, most int }{{1, 1000}, {2, 60}, {3, 6}} {
		solution := solutions()[c.n]
		tuples(len(solution), c.most, func(v []int) {
			wantIsFixed(t, c.n, v, slices.Equal(v, times(solution, slices.Min(v))))
		})
	}
}

// TestVectorsBesideSolutions changes one number, or moves something from one to another.
func TestVectorsBesideSolutions(t *testing.T) {
	for n := 2; n <= impl.MaxPairs; n++ {
		solution := times(solutions()[n], 5)
		for a := range solution {
			for _, by := range []int{-5, -1, 1, 5} {
				v := slices.Clone(solution)
				v[a] += by
				wantIsFixed(t, n, v, false)
				v[(a+1)%len(v)] -= by
				wantIsFixed(t, n, v, false)
			}
			v := make([]int, len(solution))
			v[a] = 1
			wantIsFixed(t, n, v, false)
		}
		wantIsFixed(t, n, slices.Repeat([]int{1}, len(solution)), n == 2)
	}
}

func TestIsFixedByTheOperator(t *testing.T) {
	for n := 1; n <= impl.MaxPairs; n++ {
		rows := sumOperatorWanted(n)
		for seed := range 200 {
			v := mixed(len(rows), 1+seed%3, seed)
			wantIsFixed(t, n, v, slices.Equal(appliedWanted(rows, v), times(v, 2*n)))
		}
	}
}

func TestIsFixedFailsForOtherNs(t *testing.T) {
	for _, n := range append(sizesBeside(impl.MaxPairs), impl.MaxSide) {
		for _, v := range [][]int{nil, {}, {0}, {1}, {1, 1}, make([]int, 14), make([]int, 42), make([]int, 132), {-1}} {
			wantNotFixedNor(t, n, v)
		}
	}
	for n := 1; n <= impl.MaxPairs; n++ {
		for other := 1; other <= impl.MaxPairs; other++ {
			if n != other {
				wantNotFixedNor(t, n, solutions()[other])
			}
		}
	}
}

func TestReachedFrom(t *testing.T) {
	eachPattern(impl.MaxPairs, func(p []int) {
		list, ok := impl.ReachedFrom(p)
		wantTable(t, named("ReachedFrom", p), list, ok, patternsWanted(len(p)/2))
	})
	for n := impl.MaxPairs + 1; n <= impl.MaxSide; n++ {
		for _, p := range patternsWanted(n) {
			list, ok := impl.ReachedFrom(p)
			wantNoTable(t, named("ReachedFrom", p), list, ok)
		}
	}
	for _, p := range notPatterns() {
		list, ok := impl.ReachedFrom(p)
		wantNoTable(t, "ReachedFrom "+brief(p), list, ok)
	}
}

func TestPatternOfOneLink(t *testing.T) {
	one := []int{1, 0}
	p, ok := impl.PatternWith(1, 0)
	wantRow(t, "PatternWith", p, ok, one)
	rank, ok := impl.RankPattern(one)
	wantNumber(t, "RankPattern", rank, ok, 0)
	for i := range 2 {
		q, ok := impl.JoinAt(one, i)
		wantRow(t, named("JoinAt", i), q, ok, one)
		rows, ok := impl.OperatorOf(1, i)
		wantTable(t, named("OperatorOf", i), rows, ok, [][]int{{1}})
	}
	q, ok := impl.JoinWord(one, []int{0, 1, 1, 0})
	wantRow(t, "JoinWord", q, ok, one)
	arcs, ok := impl.SmallArcs(one)
	wantRow(t, "SmallArcs", arcs, ok, []int{0, 1})
	sum, ok := impl.SumOperator(1)
	wantTable(t, "SumOperator", sum, ok, [][]int{{2}})
	v, ok := impl.SolutionOf(1)
	wantRow(t, "SolutionOf", v, ok, []int{1})
	list, ok := impl.ReachedFrom(one)
	wantTable(t, "ReachedFrom", list, ok, [][]int{one})
	nest, ok := impl.NestOf(one)
	wantNumber(t, "NestOf", nest, ok, 1)
}

func TestGivenExampleOfOperators(t *testing.T) {
	all, ok := impl.AllPatterns(2)
	wantTable(t, "AllPatterns", all, ok, [][]int{{1, 0, 3, 2}, {3, 2, 1, 0}})
	q, ok := impl.JoinAt([]int{3, 2, 1, 0}, 0)
	wantRow(t, "JoinAt", q, ok, []int{1, 0, 3, 2})
	sum, ok := impl.SumOperator(2)
	wantTable(t, "SumOperator", sum, ok, [][]int{{2, 2}, {2, 2}})
	v, ok := impl.SolutionOf(2)
	wantRow(t, "SolutionOf", v, ok, []int{1, 1})
	image, ok := impl.ApplyOperator(sum, v)
	wantRow(t, "ApplyOperator", image, ok, []int{4, 4})
}

func TestLimitOfOperators(t *testing.T) {
	if impl.MaxPairs != 4 {
		t.Error("MaxPairs", impl.MaxPairs)
	}
}

// joinCalls are the functions of chapter 8 that make a table or a list of a pattern, which stands in a table alone.
func joinCalls() []tableCall {
	calls := []tableCall{
		{"SmallArcs", ofRow(func(m [][]int) ([]int, bool) { return impl.SmallArcs(m[0]) })},
		{"ReachedFrom", asTable(impl.ReachedFrom)},
	}
	for _, i := range []int{0, 1, 11, -1} {
		calls = append(calls, tableCall{named("JoinAt", i), ofRow(func(m [][]int) ([]int, bool) { return impl.JoinAt(m[0], i) })})
	}
	for _, word := range [][]int{nil, {0}, {1, 0, 1}, {0, 2}} {
		calls = append(calls, tableCall{named("JoinWord", word), ofRow(func(m [][]int) ([]int, bool) { return impl.JoinWord(m[0], word) })})
	}
	return calls
}

func TestNoJoinedPatternIsChanged(t *testing.T) {
	for _, p := range patternArguments() {
		for _, c := range joinCalls() {
			wantNewMemory(t, c, [][]int{p})
		}
		argument := guardedRow(p)
		impl.RankPattern(argument)
		impl.NestOf(argument)
		if !rowUntouched(argument, p) {
			t.Fatalf("%s is changed", brief(p))
		}
	}
}

func TestNoWordIsChanged(t *testing.T) {
	words := [][]int{nil, {}, {0}, {1, 0}, {0, 1, 2, 3}, {-1}, {0, 100}, make([]int, 100), make([]int, 101)}
	eachPattern(impl.MaxPairs, func(p []int) {
		for _, word := range words {
			what := fmt.Sprintf("JoinWord of %v, %s", p, brief(word))
			argument := guardedRow(word)
			q, ok := impl.JoinWord(p, argument)
			fillWhole(q, 55)
			if !rowUntouched(argument, word) {
				t.Fatalf("%s changes the word", what)
			}
			fresh, fine := impl.JoinWord(p, word)
			again, still := impl.JoinWord(p, argument)
			if ok != fine || ok != still || !slices.Equal(again, fresh) {
				t.Fatalf("%s: %v and %v", what, again, fresh)
			}
		}
	})
}

// wantKept applies a table to a vector, both guarded, and checks that they stay as they are.
func wantKept(t *testing.T, rows [][]int, v []int) {
	t.Helper()
	table, vector := guarded(rows), guardedRow(v)
	image, ok := impl.ApplyOperator(table, vector)
	want := slices.Clone(image)
	fillWhole(image, 55)
	for n := range impl.MaxPairs + 2 {
		impl.IsFixed(n, vector)
	}
	if !untouched(table, rows) || !rowUntouched(vector, v) {
		t.Fatalf("%s or %s is changed", short(rows), brief(v))
	}
	again, fine := impl.ApplyOperator(table, vector)
	if ok != fine || !slices.Equal(again, want) {
		t.Fatalf("ApplyOperator of %s, %s: %v and %v", short(rows), brief(v), want, again)
	}
}

func TestNoVectorIsChanged(t *testing.T) {
	for size := 1; size <= 15; size++ {
		vectors := append(notVectors(size), mixed(size, 1000000, 3), mixed(size, 9, 4))
		for _, v := range vectors {
			wantKept(t, mixedRows(size, 100, size), v)
		}
	}
	for n := 1; n <= impl.MaxPairs; n++ {
		wantKept(t, sumOperatorWanted(n), solutions()[n])
	}
	for _, rows := range append(notSquare(), [][]int{{-1}}, [][]int{{101, 0}, {0, 1}}) {
		wantKept(t, rows, []int{1, 2, 3}[:min(3, len(rows))])
	}
}

func TestRowsOfAnOperatorMayShareMemory(t *testing.T) {
	row := []int{1, 2, 3}
	image, ok := impl.ApplyOperator([][]int{row, row, row}, row)
	wantRow(t, "ApplyOperator", image, ok, []int{14, 14, 14})
	fillWhole(image, 55)
	p := []int{3, 2, 1, 0}
	q, ok := impl.JoinWord(p, p)
	wantRow(t, "JoinWord of a pattern and itself", q, ok, wordWanted(p, []int{3, 2, 1, 0}))
	fillWhole(q, 55)
	if !slices.Equal(row, []int{1, 2, 3}) || !slices.Equal(p, []int{3, 2, 1, 0}) {
		t.Error("an argument is changed")
	}
}

func TestSpareRoomOfVectorsIsNotRead(t *testing.T) {
	long := []int{1, 1, 7, -1, 9}
	if is, ok := impl.IsFixed(2, long[:2]); !is || !ok {
		t.Errorf("IsFixed of 2: %t, %t", is, ok)
	}
	image, ok := impl.ApplyOperator([][]int{long[:2], long[1:3], long}[:2], long[:2])
	wantRow(t, "ApplyOperator", image, ok, []int{2, 8})
	points := []int{1, 0, 3, 2, 9, 9}
	q, ok := impl.JoinWord(points[:4], points[:1])
	wantRow(t, "JoinWord", q, ok, []int{3, 2, 1, 0})
	nest, ok := impl.NestOf(points[:2])
	wantNumber(t, "NestOf", nest, ok, 1)
}

func TestOperatorsAreNew(t *testing.T) {
	for n := 1; n <= impl.MaxPairs; n++ {
		for name, call := range map[string]func(n int) ([][]int, bool){
			"SumOperator":  impl.SumOperator,
			"SolutionOf":   ofCounts(impl.SolutionOf),
			"OperatorOf":   func(n int) ([][]int, bool) { return impl.OperatorOf(n, 0) },
			"the last one": func(n int) ([][]int, bool) { return impl.OperatorOf(n, 2*n-1) },
			"PatternWith":  ofCounts(func(n int) ([]int, bool) { return impl.PatternWith(n, 0) }),
		} {
			wantNewRows(t, named(name, n), func() ([][]int, bool) { return call(n) })
		}
	}
}
