package tests

import (
	"fmt"
	"math"
	"slices"
	"strings"
	"testing"

	"loop.example/g01123/impl"
)

// loopsWanted tells the loops as the document does.
func loopsWanted(m [][]int) impl.Loops {
	n := len(m)
	l := impl.Loops{Side: n, Across: make([][]int, n), Down: make([][]int, n+1)}
	for i := range n {
		s := 0
		for j := range n + 1 {
			l.Across[i] = append(l.Across[i], oneIf((s+i+j)%2 == 0))
			if j < n {
				s += m[i][j]
			}
		}
	}
	sums := make([]int, n)
	for i := range n + 1 {
		for j := range n {
			l.Down[i] = append(l.Down[i], oneIf((sums[j]+i+j)%2 != 0))
			if i < n {
				sums[j] += m[i][j]
			}
		}
	}
	return l
}

func oneIf(is bool) int {
	if is {
		return 1
	}
	return 0
}

func sameLoops(a, b impl.Loops) bool {
	return a.Side == b.Side && sameTable(a.Across, b.Across) && sameTable(a.Down, b.Down)
}

func copyLoops(l impl.Loops) impl.Loops {
	return impl.Loops{Side: l.Side, Across: copyTable(l.Across), Down: copyTable(l.Down)}
}

func guardedLoops(l impl.Loops) impl.Loops {
	return impl.Loops{Side: l.Side, Across: guarded(l.Across), Down: guarded(l.Down)}
}

func loopsUntouched(l, before impl.Loops) bool {
	return l.Side == before.Side && untouched(l.Across, before.Across) && untouched(l.Down, before.Down)
}

func hasShape(table [][]int, rows, columns int) bool {
	for _, row := range table {
		for _, v := range row {
			if v != 0 && v != 1 {
				return false
			}
		}
		if len(row) != columns {
			return false
		}
	}
	return len(table) == rows
}

// edgesAround returns the numbers of the edges above, right, below and left of a point.
func edgesAround(l impl.Loops, i, j int) []int {
	return []int{l.Down[i][j], l.Across[i][j+1], l.Down[i+1][j], l.Across[i][j]}
}

// looksLikeLoops is another way than the program's to tell loops: by the edges of each point and those outwards.
func looksLikeLoops(l impl.Loops) bool {
	n := l.Side
	if n < 1 || n > impl.MaxSide || !hasShape(l.Across, n, n+1) || !hasShape(l.Down, n+1, n) {
		return false
	}
	for i := range n {
		if l.Across[i][0] != oneIf(i%2 == 0) || l.Across[i][n] != oneIf((n+i)%2 == 1) {
			return false
		}
		if l.Down[0][i] != oneIf(i%2 == 1) || l.Down[n][i] != oneIf((n+i)%2 == 0) {
			return false
		}
		for j := range n {
			if around := edgesAround(l, i, j); around[0]+around[1]+around[2]+around[3] != 2 {
				return false
			}
		}
	}
	return true
}

// endsWanted goes along the four sides as the document does.
func endsWanted(n int) [][]int {
	var ends [][]int
	for j := 0; j < n; j++ {
		if j%2 == 1 {
			ends = append(ends, []int{0, 0, j})
		}
	}
	for i := 0; i < n; i++ {
		if (n+i)%2 == 1 {
			ends = append(ends, []int{1, i, n - 1})
		}
	}
	for j := n - 1; j >= 0; j-- {
		if (n+j)%2 == 0 {
			ends = append(ends, []int{2, n - 1, j})
		}
	}
	for i := n - 1; i >= 0; i-- {
		if i%2 == 0 {
			ends = append(ends, []int{3, i, 0})
		}
	}
	return ends
}

// lines tells what drawn edges join: points with the same number are on the same line or closed loop.
type lines struct {
	numbers [][]int
	pattern []int
	lengths []int
	closed  int
}

// renumber gives all points with one number another one.
func renumber(numbers [][]int, from, to int) {
	for _, row := range numbers {
		for j, v := range row {
			if v == from {
				row[j] = to
			}
		}
	}
}

// numbersOf joins neighbours, instead of walking as the program does.
func numbersOf(l impl.Loops) [][]int {
	numbers := make([][]int, l.Side)
	for i := range numbers {
		for j := range l.Side {
			numbers[i] = append(numbers[i], i*l.Side+j)
		}
	}
	for i, row := range numbers {
		for j := range row {
			if j > 0 && l.Across[i][j] == 1 {
				renumber(numbers, numbers[i][j], numbers[i][j-1])
			}
			if i > 0 && l.Down[i][j] == 1 {
				renumber(numbers, numbers[i][j], numbers[i-1][j])
			}
		}
	}
	return numbers
}

func linesWanted(m [][]int) lines {
	out := lines{numbers: numbersOf(loopsWanted(m))}
	sizes := map[int]int{}
	for _, row := range out.numbers {
		for _, v := range row {
			sizes[v]++
		}
	}
	var atEnds []int
	for _, end := range endsWanted(len(m)) {
		atEnds = append(atEnds, out.numbers[end[1]][end[2]])
	}
	for e, number := range atEnds {
		out.lengths = append(out.lengths, sizes[number])
		for other, v := range atEnds {
			if other != e && v == number {
				out.pattern = append(out.pattern, other)
			}
		}
	}
	out.closed = len(sizes) - len(m)
	return out
}

// looksLikePattern tells a pattern as the document does.
func looksLikePattern(p []int) bool {
	if len(p) < 2 || len(p) > 2*impl.MaxSide || len(p)%2 != 0 {
		return false
	}
	for i, v := range p {
		if v < 0 || v >= len(p) || v == i || p[v] != i {
			return false
		}
	}
	for i, v := range p {
		for j := i + 1; j < v; j++ {
			if p[j] < i || p[j] > v {
				return false
			}
		}
	}
	return true
}

// patternsWanted filters all ways to join ends in pairs, instead of making those without crossings.
func patternsWanted(n int) [][]int {
	var list [][]int
	var fill func(p []int)
	fill = func(p []int) {
		first := slices.Index(p, -1)
		if first < 0 {
			if looksLikePattern(p) {
				list = append(list, slices.Clone(p))
			}
			return
		}
		for other := first + 1; other < len(p); other++ {
			if p[other] == -1 {
				next := slices.Clone(p)
				next[first], next[other] = other, first
				fill(next)
			}
		}
	}
	fill(slices.Repeat([]int{-1}, 2*n))
	slices.SortFunc(list, slices.Compare[[]int])
	return list
}

func textWanted(p []int) string {
	text := ""
	for e, other := range p {
		if other > e {
			text += "("
		} else {
			text += ")"
		}
	}
	return text
}

func wantRow(t *testing.T, what string, got []int, ok bool, want []int) {
	t.Helper()
	if !ok || !slices.Equal(got, want) {
		t.Fatalf("%s: %v, %t instead of %v", what, got, ok, want)
	}
}

func wantNoRow(t *testing.T, what string, got []int, ok bool) {
	t.Helper()
	if ok || len(got) != 0 {
		t.Errorf("%s: %v, %t instead of a failure", what, got, ok)
	}
}

func wantAreLoops(t *testing.T, l impl.Loops, want bool) {
	t.Helper()
	if got := impl.AreLoops(l); got != want {
		t.Fatalf("AreLoops of %v: %t", l, got)
	}
	m, ok := impl.FromLoops(l)
	if !want {
		wantNoTable(t, named("FromLoops", l), m, ok)
		return
	}
	if !ok || !areSigns(m) || !sameLoops(loopsWanted(m), l) {
		t.Fatalf("FromLoops of %v: %v, %t", l, m, ok)
	}
}

func TestLoopsAndSignsUndoEachOther(t *testing.T) {
	upToSide(t, func(t *testing.T, m [][]int) {
		want := loopsWanted(m)
		l, ok := impl.LoopsOf(m)
		if !ok || !sameLoops(l, want) {
			t.Fatalf("LoopsOf of %v: %v, %t", m, l, ok)
		}
		if !looksLikeLoops(l) || !impl.AreLoops(l) {
			t.Fatalf("AreLoops of %v: false", l)
		}
		back, ok := impl.FromLoops(want)
		wantTable(t, named("FromLoops", want), back, ok, m)
	})
}

// edgesOf returns the places of the numbers of loops, so that they can be changed.
func edgesOf(l impl.Loops) []*int {
	var edges []*int
	for _, row := range slices.Concat(l.Across, l.Down) {
		for k := range row {
			edges = append(edges, &row[k])
		}
	}
	return edges
}

// eachDrawing calls visit for all numbers in low..high of some edges, and returns for how many of them it says yes.
func eachDrawing(edges []*int, low, high int, visit func() bool) int {
	if len(edges) == 0 {
		return oneIf(visit())
	}
	count := 0
	for v := low; v <= high; v++ {
		*edges[0] = v
		count += eachDrawing(edges[1:], low, high, visit)
	}
	return count
}

// wantLoopsAmong checks all numbers in low..high of some edges of loops; count tells how many loops they leave.
func wantLoopsAmong(t *testing.T, l impl.Loops, edges []*int, low, high, count int) {
	t.Helper()
	got := eachDrawing(edges, low, high, func() bool {
		want := looksLikeLoops(l)
		wantAreLoops(t, l, want)
		return want
	})
	wantNumber(t, named("loops, a side", l.Side), got, true, count)
}

func TestAreLoopsAmongAllDrawings(t *testing.T) {
	one, two := loopsWanted(identity(1)), loopsWanted(identity(2))
	wantLoopsAmong(t, one, edgesOf(one), -2, 3, 1)
	wantLoopsAmong(t, two, edgesOf(two), 0, 1, 2)
}

// innerEdgesOf leaves out the edges outwards.
func innerEdgesOf(l impl.Loops) []*int {
	var edges []*int
	for i := range l.Side {
		for j := 1; j < l.Side; j++ {
			edges = append(edges, &l.Across[i][j], &l.Down[j][i])
		}
	}
	return edges
}

func TestAreLoopsAmongAllInnerDrawings(t *testing.T) {
	two, three := loopsWanted(identity(2)), loopsWanted(identity(3))
	wantLoopsAmong(t, two, innerEdgesOf(two), -1, 2, 2)
	wantLoopsAmong(t, three, innerEdgesOf(three), 0, 1, 7)
}

func TestAreLoopsBesideLoops(t *testing.T) {
	for n := 1; n <= 4; n++ {
		for _, m := range signMatrices(n) {
			l := loopsWanted(m)
			for _, edge := range edgesOf(l) {
				was := *edge
				for _, v := range []int{-1, 0, 1, 2, 3, -2, 1 << 32, math.MinInt, math.MaxInt} {
					*edge = v
					wantAreLoops(t, l, v == was)
				}
				*edge = was
			}
		}
	}
}

// TestAreLoopsBehindSquares exchanges drawn and other edges around a square of four points, which leaves other loops or none.
func TestAreLoopsBehindSquares(t *testing.T) {
	for n := 2; n <= 5; n++ {
		for _, m := range signMatrices(n) {
			for i := range n - 1 {
				for j := range n - 1 {
					l := loopsWanted(m)
					for _, edge := range []*int{&l.Across[i][j+1], &l.Across[i+1][j+1], &l.Down[i+1][j], &l.Down[i+1][j+1]} {
						*edge = 1 - *edge
					}
					_, flips := impl.FlipAt(m, i+1, j+1)
					if looksLikeLoops(l) != flips {
						t.Fatalf("edges around the square %d, %d of %v", i, j, m)
					}
					wantAreLoops(t, l, flips)
				}
			}
		}
	}
}

// reshapedLoops lists loops whose parts do not fit each other, made of right ones.
func reshapedLoops(l impl.Loops) []impl.Loops {
	n, across, down := l.Side, l.Across, l.Down
	list := []impl.Loops{
		{Side: n, Across: down, Down: across},
		{Side: n, Across: across}, {Side: n, Down: down}, {Across: across, Down: down},
		{Side: n, Across: across[:n-1], Down: down}, {Side: n, Across: append(copyTable(across), across[0]), Down: down},
		{Side: n, Across: across, Down: down[:n]}, {Side: n, Across: across, Down: append(copyTable(down), down[0])},
		{Side: n, Across: across[1:], Down: down}, {Side: n, Across: across, Down: down[1:]},
		{Side: n, Across: across, Down: across}, {Side: n, Across: down, Down: down},
		{Side: n, Across: make([][]int, n), Down: down}, {Side: n, Across: across, Down: make([][]int, n+1)},
	}
	for _, side := range append(sizesBeside(impl.MaxSide), n-1, n+1, -n, n+1<<32) {
		list = append(list, impl.Loops{Side: side, Across: across, Down: down})
	}
	for place := range 2*n + 1 {
		for _, change := range []func(row []int) []int{
			func(row []int) []int { return row[:len(row)-1] },
			func(row []int) []int { return row[1:] },
			func(row []int) []int { return append(row, 0) },
			func(row []int) []int { return append(row, 1) },
			func(row []int) []int { return nil },
		} {
			c := copyLoops(l)
			if place < n {
				c.Across[place] = change(c.Across[place])
			} else {
				c.Down[place-n] = change(c.Down[place-n])
			}
			list = append(list, c)
		}
	}
	return list
}

// notLoops lists loops that are none: of the wrong shape, or right ones that are exchanged, turned over or shifted.
func notLoops() []impl.Loops {
	list := []impl.Loops{{}, {Side: 1}, {Side: -1}, {Side: 6}, {Side: math.MaxInt}, {Side: math.MinInt}, {Across: [][]int{}, Down: [][]int{{}}}, {Down: [][]int{nil}}}
	for _, n := range []int{impl.MaxSide + 1, impl.MaxSide + 2, 50} {
		large := loopsWanted(identity(n))
		list = append(list, large, impl.Loops{Side: impl.MaxSide, Across: large.Across, Down: large.Down})
	}
	for n := 1; n <= impl.MaxSide; n++ {
		for _, m := range [][][]int{identity(n), greatestWanted(n)} {
			l := loopsWanted(m)
			list = append(list, reshapedLoops(l)...)
			for _, change := range []func(v int) int{
				func(v int) int { return 1 - v },
				func(v int) int { return -v },
				func(v int) int { return 2 * v },
				func(v int) int { return v + 2 },
				func(v int) int { return v + math.MinInt },
				func(v int) int { return 0 },
				func(v int) int { return 1 },
			} {
				c := copyLoops(l)
				for _, edge := range edgesOf(c) {
					*edge = change(*edge)
				}
				list = append(list, c)
			}
		}
	}
	return list
}

func TestLoopsAreRequired(t *testing.T) {
	for _, l := range notLoops() {
		if looksLikeLoops(l) {
			t.Fatalf("%v are loops", l)
		}
		wantAreLoops(t, l, false)
	}
}

// TestWrongEdgesOutwards turns and mirrors loops: each point keeps two drawn edges, but those outwards may be wrong.
func TestWrongEdgesOutwards(t *testing.T) {
	wrong := 0
	for n := 1; n <= 5; n++ {
		for _, m := range signMatrices(n) {
			over, exchanged := loopsWanted(m), loopsWanted(m)
			for _, row := range over.Across {
				slices.Reverse(row)
			}
			for _, row := range over.Down {
				slices.Reverse(row)
			}
			for i := range n {
				exchanged.Across[i] = columnOf(over.Down, i)
			}
			for i := range n + 1 {
				exchanged.Down[i] = columnOf(over.Across, i)
			}
			for _, l := range []impl.Loops{over, exchanged} {
				wantAreLoops(t, l, looksLikeLoops(l))
				wrong += oneIf(!looksLikeLoops(l))
			}
		}
	}
	if wrong == 0 {
		t.Error("no wrong edges outwards")
	}
}

func TestEndsOf(t *testing.T) {
	for n := 1; n <= impl.MaxSide; n++ {
		ends, ok := impl.EndsOf(n)
		wantTable(t, named("EndsOf", n), ends, ok, endsWanted(n))
		wantNumber(t, named("ends", n), len(ends), ok, 2*n)
	}
	ends, ok := impl.EndsOf(3)
	wantTable(t, "EndsOf 3", ends, ok, [][]int{{0, 0, 1}, {1, 0, 2}, {1, 2, 2}, {2, 2, 1}, {3, 2, 0}, {3, 0, 0}})
}

func TestEndsAreDrawn(t *testing.T) {
	upToSide(t, func(t *testing.T, m [][]int) {
		l, _ := impl.LoopsOf(m)
		ends, _ := impl.EndsOf(len(m))
		for _, end := range ends {
			if edgesAround(l, end[1], end[2])[end[0]] != 1 {
				t.Fatalf("the end %v of %v is not drawn", end, m)
			}
		}
	})
}

func TestLinesJoinAllEnds(t *testing.T) {
	upToSide(t, func(t *testing.T, m [][]int) {
		want := linesWanted(m)
		p, ok := impl.PatternOf(m)
		wantRow(t, named("PatternOf", m), p, ok, want.pattern)
		if !looksLikePattern(p) || !impl.IsPattern(p) {
			t.Fatalf("PatternOf %v is no pattern: %v", m, p)
		}
		lengths, ok := impl.LineLengths(m)
		wantRow(t, named("LineLengths", m), lengths, ok, want.lengths)
		closed, ok := impl.CountClosed(m)
		wantNumber(t, named("CountClosed", m), closed, ok, want.closed)
	})
}

func TestClosedLoops(t *testing.T) {
	most := []int{0, 0, 0, 0, 1, 1, 2}
	for n := 1; n <= impl.MaxSide; n++ {
		counts := map[int]int{}
		for _, m := range signMatrices(n) {
			closed, _ := impl.CountClosed(m)
			counts[closed]++
		}
		for closed := range counts {
			if closed < 0 || closed > most[n] {
				t.Errorf("%d closed loops of %d rows", closed, n)
			}
		}
		if counts[0] == 0 || counts[most[n]] == 0 {
			t.Errorf("closed loops of %d rows: %v", n, counts)
		}
	}
}

// sideBetween tells on which side of a point the next one is, or -1 if it is not next to it.
func sideBetween(from, to []int) int {
	return slices.IndexFunc([][]int{{-1, 0}, {0, 1}, {1, 0}, {0, -1}}, func(step []int) bool {
		return from[0]+step[0] == to[0] && from[1]+step[1] == to[1]
	})
}

// wantWay checks that a list of points leads from an end along drawn edges to the other one, through all points of the line.
func wantWay(t *testing.T, m [][]int, end int, way [][]int) {
	t.Helper()
	l, known, ends := loopsWanted(m), linesWanted(m), endsWanted(len(m))
	other := known.pattern[end]
	if len(way) != known.lengths[end] || !slices.Equal(way[0], ends[end][1:]) || !slices.Equal(way[len(way)-1], ends[other][1:]) {
		t.Fatalf("WayFrom %v, %d: %v", m, end, way)
	}
	for k := 1; k < len(way); k++ {
		from := way[k-1]
		side := sideBetween(from, way[k])
		if side < 0 || edgesAround(l, from[0], from[1])[side] != 1 || slices.ContainsFunc(way[:k], func(at []int) bool { return slices.Equal(at, way[k]) }) {
			t.Fatalf("WayFrom %v, %d leads to %v: %v", m, end, way[k], way)
		}
	}
}

func TestWaysFromBothEnds(t *testing.T) {
	for n := 1; n <= impl.MaxSide; n++ {
		stride := []int{0, 1, 1, 1, 1, 1, 37}[n]
		list := signMatrices(n)
		for k := 0; k < len(list); k += stride {
			m := list[k]
			for end, other := range linesWanted(m).pattern {
				way, ok := impl.WayFrom(m, end)
				if !ok {
					t.Fatalf("WayFrom %v, %d fails", m, end)
				}
				wantWay(t, m, end, way)
				back, ok := impl.WayFrom(m, other)
				slices.Reverse(back)
				wantTable(t, named("WayFrom the other end", m), back, ok, way)
			}
		}
	}
}

func TestPointsOfLinesAndLoops(t *testing.T) {
	upToSide(t, func(t *testing.T, m [][]int) {
		onLines := map[[2]int]bool{}
		for end := range 2 * len(m) {
			way, _ := impl.WayFrom(m, end)
			for _, at := range way {
				onLines[[2]int{at[0], at[1]}] = true
			}
		}
		lengths, _ := impl.LineLengths(m)
		sum := 0
		for _, length := range lengths {
			sum += length
		}
		closed, _ := impl.CountClosed(m)
		if sum != 2*len(onLines) || (len(onLines) == len(m)*len(m)) != (closed == 0) {
			t.Fatalf("%v has %d points on lines, %v and %d closed loops", m, len(onLines), lengths, closed)
		}
	})
}

func TestWaysFromWrongEnds(t *testing.T) {
	for n := 1; n <= impl.MaxSide; n++ {
		for _, m := range [][][]int{identity(n), greatestWanted(n)} {
			for _, end := range []int{-1, -2, -2 * n, 2 * n, 2*n + 1, 4 * n, 1 << 32, math.MaxInt, math.MinInt} {
				way, ok := impl.WayFrom(m, end)
				wantNoTable(t, fmt.Sprintf("WayFrom %v, %d", m, end), way, ok)
			}
		}
	}
}

func TestKnownLines(t *testing.T) {
	for _, c := range []struct {
		signs   string
		pattern string
		closed  int
		lengths []int
		way     [][]int
	}{
		{"+", "()", 0, []int{1, 1}, [][]int{{0, 0}}},
		{"+0/0+", "(())", 0, []int{2, 2, 2, 2}, [][]int{{0, 1}, {0, 0}}},
		{"0+/+0", "()()", 0, []int{2, 2, 2, 2}, [][]int{{0, 1}, {1, 1}}},
		{"0+0/+-+/0+0", "(())()", 0, []int{3, 3, 3, 3, 3, 3}, [][]int{{0, 1}, {1, 1}, {2, 1}}},
		{"00+0/+000/000+/0+00", "()()()()", 1, []int{3, 3, 3, 3, 3, 3, 3, 3}, [][]int{{0, 1}, {0, 2}, {0, 3}}},
		{"+00/0+0/00+", "((()))", 0, []int{2, 5, 2, 2, 5, 2}, [][]int{{0, 1}, {0, 0}}},
	} {
		m := parsed(t, c.signs)
		p, ok := impl.PatternOf(m)
		if text, fine := impl.PatternText(p); text != c.pattern || !fine || !ok {
			t.Errorf("pattern of %s: %s, %t", c.signs, text, ok)
		}
		closed, ok := impl.CountClosed(m)
		wantNumber(t, "CountClosed of "+c.signs, closed, ok, c.closed)
		lengths, ok := impl.LineLengths(m)
		wantRow(t, "LineLengths of "+c.signs, lengths, ok, c.lengths)
		way, ok := impl.WayFrom(m, 0)
		wantTable(t, "WayFrom "+c.signs, way, ok, c.way)
	}
}

func TestLinesOfOneRow(t *testing.T) {
	one := identity(1)
	l, ok := impl.LoopsOf(one)
	if !ok || !sameLoops(l, impl.Loops{Side: 1, Across: [][]int{{1, 1}}, Down: [][]int{{0}, {0}}}) {
		t.Errorf("LoopsOf: %v, %t", l, ok)
	}
	back, ok := impl.FromLoops(l)
	wantTable(t, "FromLoops", back, ok, one)
	ends, ok := impl.EndsOf(1)
	wantTable(t, "EndsOf", ends, ok, [][]int{{1, 0, 0}, {3, 0, 0}})
	p, ok := impl.PatternOf(one)
	wantRow(t, "PatternOf", p, ok, []int{1, 0})
	for end := range 2 {
		way, ok := impl.WayFrom(one, end)
		wantTable(t, named("WayFrom", end), way, ok, [][]int{{0, 0}})
	}
	counts, ok := impl.CountByPattern(1)
	wantRow(t, "CountByPattern", counts, ok, []int{1})
	list, ok := impl.SignsWithPattern([]int{1, 0})
	wantTable(t, "SignsWithPattern", slices.Concat(list...), ok && len(list) == 1, one)
}

// notPatterns lists lists that are no patterns.
func notPatterns() [][]int {
	long := make([]int, 100000)
	for e := range long {
		long[e] = e ^ 1
	}
	return [][]int{
		nil, {}, {0}, {1}, {-1}, {1, 0, 2}, {2, 1, 0}, {1, 0, 3}, {1, 0, 3, 2, 4}, {1, 0, 3, 2, 5},
		{0, 1}, {0, 0}, {1, 1}, {-1, 0}, {1, -1}, {1, 2}, {2, 0}, {2, 1}, {math.MaxInt, 0}, {math.MinInt, 0}, {1, math.MinInt}, {math.MaxInt, math.MinInt},
		{2, 3, 0, 1}, {1, 2, 3, 0}, {3, 0, 1, 2}, {1, 0, 2, 3}, {1, 0, 3, 3}, {3, 2, 1, 3}, {3, 3, 0, 0}, {1, 0, 1, 0}, {3, 2, 3, 2}, {3, 2, 0, 1},
		{1, 0, 4, 2}, {1, 0, -3, 2}, {1, 0, 3, 1}, {4, 2, 1, 0}, {3, 2, 1, -1}, {1, 0, math.MaxInt, 2}, {1, 0, 3, math.MinInt}, {5, 0, 7, 2},
		{3, 4, 5, 0, 1, 2}, {1, 0, 4, 5, 2, 3}, {2, 5, 0, 4, 3, 1}, {5, 3, 4, 1, 2, 0}, {1, 0, 3, 2, 4, 5},
		{1, 0, 3, 2, 5, 4, 7, 6, 9, 8, 11, 11}, {1, 0, 3, 2, 5, 4, 7, 6, 9, 8, 10, 11}, {6, 7, 8, 9, 10, 11, 0, 1, 2, 3, 4, 5},
		{1, 0, 3, 2, 5, 4, 7, 6, 9, 8, 11, 10, 12}, {1, 0, 3, 2, 5, 4, 7, 6, 9, 8, 11, 10, 13, 12}, {13, 12, 11, 10, 9, 8, 7, 6, 5, 4, 3, 2, 1, 0},
		make([]int, 12), make([]int, 14), long, make([]int, 100000),
	}
}

func wantIsPattern(t *testing.T, p []int) bool {
	t.Helper()
	want := looksLikePattern(p)
	if got := impl.IsPattern(p); got != want {
		t.Fatalf("IsPattern of %v: %t", p, got)
	}
	return want
}

// eachList calls visit for all lists of numbers in low..high and counts for how many of them it says yes; visit must not keep them.
func eachList(size, low, high int, visit func(p []int) bool) int {
	p := make([]int, size)
	places := make([]*int, size)
	for k := range p {
		places[k] = &p[k]
	}
	return eachDrawing(places, low, high, func() bool { return visit(p) })
}

func TestIsPatternAmongAllLists(t *testing.T) {
	for _, c := range []struct{ size, low, high, count int }{
		{0, 0, 0, 0}, {1, -2, 2, 0}, {2, -3, 4, 1}, {3, -1, 3, 0}, {4, -2, 5, 2}, {5, 0, 5, 0}, {6, -1, 6, 5},
	} {
		count := eachList(c.size, c.low, c.high, func(p []int) bool { return wantIsPattern(t, p) })
		wantNumber(t, named("patterns among lists", c.size), count, true, c.count)
	}
}

func TestIsPatternBesidePatterns(t *testing.T) {
	for n := 1; n <= impl.MaxSide; n++ {
		for _, p := range patternsWanted(n) {
			if !wantIsPattern(t, p) {
				t.Fatalf("%v is no pattern", p)
			}
			for e := range p {
				for v := -1; v <= 2*n; v++ {
					changed := slices.Clone(p)
					changed[e] = v
					wantIsPattern(t, changed)
				}
				for other := range e {
					// Two lines that exchange an end are a pattern just if they do not cross.
					changed := slices.Clone(p)
					a, b := p[e], p[other]
					changed[e], changed[other], changed[a], changed[b] = b, a, other, e
					wantIsPattern(t, changed)
				}
			}
		}
	}
}

func TestPatternsAreRequired(t *testing.T) {
	for _, p := range notPatterns() {
		name := fmt.Sprint(p[:min(len(p), 15)])
		if looksLikePattern(p) || impl.IsPattern(p) {
			t.Errorf("%s is taken for a pattern", name)
		}
		for _, by := range []int{0, 1, -1, 100, 101} {
			q, ok := impl.TurnPattern(p, by)
			wantNoRow(t, "TurnPattern of "+name, q, ok)
		}
		q, ok := impl.MirrorPattern(p)
		wantNoRow(t, "MirrorPattern of "+name, q, ok)
		if list, ok := impl.SignsWithPattern(p); len(list) != 0 || ok {
			t.Errorf("SignsWithPattern of %s: %v, %t", name, list, ok)
		}
		if text, ok := impl.PatternText(p); text != "" || ok {
			t.Errorf("PatternText of %s: %s, %t", name, text, ok)
		}
	}
}

func TestAllPatterns(t *testing.T) {
	for n := 1; n <= impl.MaxSide; n++ {
		want := patternsWanted(n)
		list, ok := impl.AllPatterns(n)
		wantTable(t, named("AllPatterns", n), list, ok, want)
		count, ok := impl.CountPatterns(n)
		wantNumber(t, named("CountPatterns", n), count, ok, len(want))
		wantNumber(t, named("CountPatterns", n), count, ok, []int{0, 1, 2, 5, 14, 42, 132}[n])
	}
}

// TestOrderOfPatterns has two patterns that do not come in the opposite order of their texts, as all of up to three lines do.
func TestOrderOfPatterns(t *testing.T) {
	first, _ := impl.ParsePattern("((()))()")
	second, _ := impl.ParsePattern("(()()())")
	list, _ := impl.AllPatterns(4)
	at := func(p []int) int {
		return slices.IndexFunc(list, func(q []int) bool { return slices.Equal(p, q) })
	}
	if at(first) < 0 || at(first) >= at(second) {
		t.Errorf("ranks %d and %d", at(first), at(second))
	}
}

func TestSizesOfChapter4AreLimited(t *testing.T) {
	for _, n := range sizesBeside(impl.MaxSide) {
		ends, ok := impl.EndsOf(n)
		wantNoTable(t, named("EndsOf", n), ends, ok)
		list, ok := impl.AllPatterns(n)
		wantNoTable(t, named("AllPatterns", n), list, ok)
		if count, ok := impl.CountPatterns(n); count != 0 || ok {
			t.Errorf("CountPatterns of %d: %d, %t", n, count, ok)
		}
	}
	for _, n := range append(sizesBeside(5), impl.MaxSide, impl.MaxSide+1) {
		counts, ok := impl.CountByPattern(n)
		wantNoRow(t, named("CountByPattern", n), counts, ok)
	}
}

// joinedAt makes a list of pairs of ends, whatever they are called, modulo its length.
func joinedAt(p []int, name func(e int) int) []int {
	q := make([]int, len(p))
	for e, other := range p {
		a, b := name(e), name(other)
		for a < 0 || b < 0 {
			a, b = a+len(p), b+len(p)
		}
		q[a%len(p)] = b % len(p)
	}
	return q
}

func TestTurnPattern(t *testing.T) {
	for n := 1; n <= impl.MaxSide; n++ {
		stride := []int{0, 1, 1, 1, 1, 5, 17}[n]
		list := patternsWanted(n)
		for k := 0; k < len(list); k += stride {
			p := list[k]
			for by := -100; by <= 100; by++ {
				q, ok := impl.TurnPattern(p, by)
				wantRow(t, fmt.Sprintf("TurnPattern of %v by %d", p, by), q, ok, joinedAt(p, func(e int) int { return e + by }))
				if !impl.IsPattern(q) {
					t.Fatalf("TurnPattern of %v by %d is no pattern: %v", p, by, q)
				}
				back, ok := impl.TurnPattern(q, -by)
				wantRow(t, fmt.Sprintf("TurnPattern of %v by %d", q, -by), back, ok, p)
			}
			for _, by := range []int{-101, 101, -102, 102, 200, -200, 1 << 32, math.MaxInt, math.MinInt, math.MinInt + 1} {
				q, ok := impl.TurnPattern(p, by)
				wantNoRow(t, fmt.Sprintf("TurnPattern of %v by %d", p, by), q, ok)
			}
		}
	}
}

func TestTurnsOfPatternsAddUp(t *testing.T) {
	for n := 1; n <= impl.MaxSide; n++ {
		for _, p := range patternsWanted(n) {
			turned := p
			for by := 1; by <= 2*n; by++ {
				turned, _ = impl.TurnPattern(turned, 1)
				once, ok := impl.TurnPattern(p, by)
				wantRow(t, fmt.Sprintf("TurnPattern of %v by %d", p, by), once, ok, turned)
				less, ok := impl.TurnPattern(p, by-2*n)
				wantRow(t, fmt.Sprintf("TurnPattern of %v by %d", p, by-2*n), less, ok, turned)
				more, ok := impl.TurnPattern(p, by+2*n)
				wantRow(t, fmt.Sprintf("TurnPattern of %v by %d", p, by+2*n), more, ok, turned)
			}
			wantRow(t, "a turn all around", turned, true, p)
		}
	}
}

func patternOf(t *testing.T, text string) []int {
	t.Helper()
	p, ok := impl.ParsePattern(text)
	if !ok {
		t.Fatalf("%s is no text of a pattern", text)
	}
	return p
}

func TestKnownTurnsOfPatterns(t *testing.T) {
	for _, c := range []struct {
		from string
		by   int
		to   string
	}{
		{"()", 1, "()"}, {"()", -1, "()"}, {"()", 100, "()"},
		{"()()", 1, "(())"}, {"()()", 2, "()()"}, {"()()", -2, "()()"}, {"(())", 100, "(())"}, {"(())", 99, "()()"}, {"(())", -99, "()()"},
		{"(())()", 0, "(())()"}, {"(())()", 1, "((()))"}, {"((()))", 1, "()(())"}, {"()(())", 1, "(())()"}, {"(())()", -1, "()(())"}, {"(())()", 3, "(())()"},
		{"()()()", 1, "(()())"}, {"()()()", 2, "()()()"}, {"(()())", -4, "(()())"}, {"()()()", 7, "(()())"}, {"()()()", -7, "(()())"},
		{"(())(())", 4, "(())(())"}, {"(())(())", 2, "(((())))"},
	} {
		q, ok := impl.TurnPattern(patternOf(t, c.from), c.by)
		wantRow(t, fmt.Sprintf("TurnPattern of %s by %d", c.from, c.by), q, ok, patternOf(t, c.to))
	}
}

func TestPatternsThatTurnIntoThemselves(t *testing.T) {
	for _, c := range []struct {
		text string
		by   int
	}{
		{"()", 1}, {"()()", 2}, {"(())", 2}, {"()()()", 2}, {"((()))", 3}, {"(())()", 3}, {"(())(())", 4}, {"()()()()", 2}, {"(()())()", 8},
		{"()()()()()()", 2}, {"(())(())(())", 4}, {"((()))((()))", 6}, {"(()()())()()", 12},
	} {
		p := patternOf(t, c.text)
		for by := -100; by <= 100; by++ {
			q, ok := impl.TurnPattern(p, by)
			if !ok || slices.Equal(p, q) != (by%c.by == 0) {
				t.Fatalf("TurnPattern of %s by %d: %v, %t", c.text, by, q, ok)
			}
		}
	}
}

func TestMirrorPattern(t *testing.T) {
	for n := 1; n <= impl.MaxSide; n++ {
		for _, p := range patternsWanted(n) {
			q, ok := impl.MirrorPattern(p)
			wantRow(t, named("MirrorPattern", p), q, ok, joinedAt(p, func(e int) int { return 2*n - 1 - e }))
			if !impl.IsPattern(q) {
				t.Fatalf("MirrorPattern of %v is no pattern: %v", p, q)
			}
			back, ok := impl.MirrorPattern(q)
			wantRow(t, named("MirrorPattern", q), back, ok, p)
			turned, _ := impl.TurnPattern(p, 1)
			mirrored, _ := impl.MirrorPattern(turned)
			same, ok := impl.TurnPattern(q, -1)
			wantRow(t, named("MirrorPattern of a turned pattern", p), same, ok, mirrored)
		}
	}
	for from, to := range map[string]string{"()": "()", "(())": "(())", "(())()": "()(())", "(()())": "(()())", "((()))()": "()((()))", "(()(()))": "((())())"} {
		q, ok := impl.MirrorPattern(patternOf(t, from))
		wantRow(t, "MirrorPattern of "+from, q, ok, patternOf(t, to))
	}
}

func TestCountByPattern(t *testing.T) {
	for n := 1; n <= 5; n++ {
		list := patternsWanted(n)
		want := make([]int, len(list))
		for _, m := range signMatrices(n) {
			want[slices.IndexFunc(list, func(p []int) bool { return slices.Equal(p, linesWanted(m).pattern) })]++
		}
		counts, ok := impl.CountByPattern(n)
		wantRow(t, named("CountByPattern", n), counts, ok, want)
		wantAllShared(t, named("CountByPattern", n), counts, ok, n)
	}
}

func TestKnownCountsByPattern(t *testing.T) {
	for k, want := range [][]int{{1}, {1, 1}, {2, 1, 1, 2, 1}, {7, 3, 3, 3, 1, 3, 1, 3, 1, 7, 3, 3, 3, 1}} {
		counts, ok := impl.CountByPattern(k + 1)
		wantRow(t, named("CountByPattern", k+1), counts, ok, want)
	}
}

// TestCountsStayBehindTurnsAndMirrors uses that turned and mirrored patterns have as many matrices.
func TestCountsStayBehindTurnsAndMirrors(t *testing.T) {
	for n := 1; n <= 5; n++ {
		counts, _ := impl.CountByPattern(n)
		list, _ := impl.AllPatterns(n)
		withText := map[string]int{}
		for rank, p := range list {
			withText[textWanted(p)] = counts[rank]
		}
		for rank, p := range list {
			turned, _ := impl.TurnPattern(p, 1)
			mirrored, _ := impl.MirrorPattern(p)
			if withText[textWanted(turned)] != counts[rank] || withText[textWanted(mirrored)] != counts[rank] {
				t.Errorf("%v has %d matrices, but %v or %v has not", p, counts[rank], turned, mirrored)
			}
		}
	}
}

// sameList compares lists of tables.
func sameList(a, b [][][]int) bool { return slices.EqualFunc(a, b, sameTable) }

func TestSignsWithPattern(t *testing.T) {
	for n := 1; n <= 4; n++ {
		counts, _ := impl.CountByPattern(n)
		for rank, p := range patternsWanted(n) {
			var want [][][]int
			for _, m := range signMatrices(n) {
				if slices.Equal(linesWanted(m).pattern, p) {
					want = append(want, m)
				}
			}
			list, ok := impl.SignsWithPattern(p)
			if !ok || !sameList(list, want) || len(list) != counts[rank] {
				t.Fatalf("SignsWithPattern of %v: %v, %t", p, list, ok)
			}
		}
	}
	for n := 5; n <= impl.MaxSide; n++ {
		for _, p := range patternsWanted(n) {
			if list, ok := impl.SignsWithPattern(p); len(list) != 0 || ok {
				t.Fatalf("SignsWithPattern of %v: %v, %t", p, list, ok)
			}
		}
	}
}

func TestPatternTexts(t *testing.T) {
	for n := 1; n <= impl.MaxSide; n++ {
		for _, p := range patternsWanted(n) {
			text, ok := impl.PatternText(p)
			if text != textWanted(p) || !ok {
				t.Fatalf("PatternText of %v: %s, %t", p, text, ok)
			}
			back, ok := impl.ParsePattern(text)
			wantRow(t, "ParsePattern "+text, back, ok, p)
		}
	}
}

// TestParsePatternOfAllTexts tells by counting which texts of brackets are patterns.
func TestParsePatternOfAllTexts(t *testing.T) {
	for size := range 15 {
		count := 0
		for bits := range 1 << size {
			open, text, good := 0, "", true
			for k := range size {
				text += "()"[bits>>k&1 : bits>>k&1+1]
				open += 1 - 2*(bits>>k&1)
				good = good && open >= 0
			}
			p, ok := impl.ParsePattern(text)
			if !good || open != 0 || size == 0 || size > 2*impl.MaxSide {
				wantNoRow(t, "ParsePattern "+text, p, ok)
				continue
			}
			if !ok || !looksLikePattern(p) || textWanted(p) != text {
				t.Fatalf("ParsePattern %s: %v, %t", text, p, ok)
			}
			count++
		}
		if want, ok := impl.CountPatterns(size / 2); size%2 == 0 && ok {
			wantNumber(t, named("patterns with texts", size), count, true, want)
		}
	}
}

func TestParsePatternFails(t *testing.T) {
	for _, s := range []string{
		"", " ", "(", ")", ")(", "((", "))", "( )", " ()", "() ", "()\n", "\n()", "()\x00", "(\x00)", "[]", "{}", "<>", "00", "10", "()(", "())", "(()", ")()",
		"()[]", "([])", "()()x", "(x)", "\uff08\uff09", "(\u00a0)", "())(", "(()))(", "()()()()()()()", "((((((()))))))", "(((((((", "()()()()()()(", "()()()()()())",
		strings.Repeat("(", 12), strings.Repeat(")", 12), strings.Repeat("()", 100000), strings.Repeat("(", 100000), strings.Repeat("(", 100000) + strings.Repeat(")", 100000),
	} {
		p, ok := impl.ParsePattern(s)
		wantNoRow(t, named("ParsePattern", s[:min(len(s), 30)]), p, ok)
	}
}

func TestParsePatternOfBytes(t *testing.T) {
	for value := range 256 {
		for place := range 4 {
			bytes := []byte("(())")
			bytes[place] = byte(value)
			p, ok := impl.ParsePattern(string(bytes))
			switch string(bytes) {
			case "(())":
				wantRow(t, "ParsePattern", p, ok, []int{3, 2, 1, 0})
			default:
				wantNoRow(t, named("ParsePattern", bytes), p, ok)
			}
		}
	}
}

func TestGivenExampleOfLines(t *testing.T) {
	p, ok := impl.PatternOf(parsed(t, "+0/0+"))
	wantRow(t, "PatternOf", p, ok, []int{3, 2, 1, 0})
	list, ok := impl.AllPatterns(3)
	texts := ""
	for _, p := range list {
		texts += textWanted(p) + " "
	}
	if texts != "()()() ()(()) (())() (()()) ((())) " || !ok {
		t.Errorf("AllPatterns: %s, %t", texts, ok)
	}
	closed, ok := impl.CountClosed(parsed(t, "0+0/+-+/0+0"))
	wantNumber(t, "CountClosed", closed, ok, 0)
}

// ofRow lets a function that makes a list stand among those that make a table.
func ofRow(call func(m [][]int) ([]int, bool)) func(m [][]int) ([][]int, bool) {
	return func(m [][]int) ([][]int, bool) {
		row, ok := call(m)
		if len(row) == 0 {
			return nil, ok
		}
		return [][]int{row}, ok
	}
}

// lineCalls are the functions of chapter 4 that make a table or a list of a sign matrix.
func lineCalls() []tableCall {
	calls := []tableCall{
		{"PatternOf", ofRow(impl.PatternOf)},
		{"LineLengths", ofRow(impl.LineLengths)},
		{"Across of LoopsOf", func(m [][]int) ([][]int, bool) {
			l, ok := impl.LoopsOf(m)
			return l.Across, ok
		}},
		{"both tables of LoopsOf", func(m [][]int) ([][]int, bool) {
			l, ok := impl.LoopsOf(m)
			return slices.Concat(l.Across, l.Down), ok
		}},
	}
	for _, end := range []int{0, 1} {
		calls = append(calls, tableCall{named("WayFrom", end), func(m [][]int) ([][]int, bool) { return impl.WayFrom(m, end) }})
	}
	return calls
}

// patternCalls are the functions of chapter 4 that make a table or a list of a pattern, which stands in a table alone.
func patternCalls() []tableCall {
	calls := []tableCall{
		{"MirrorPattern", ofRow(func(m [][]int) ([]int, bool) { return impl.MirrorPattern(m[0]) })},
		{"SignsWithPattern", asTable(func(p []int) ([][]int, bool) {
			list, ok := impl.SignsWithPattern(p)
			return slices.Concat(list...), ok
		})},
	}
	for _, by := range []int{0, 1, 12, -100} {
		calls = append(calls, tableCall{named("TurnPattern by", by), ofRow(func(m [][]int) ([]int, bool) { return impl.TurnPattern(m[0], by) })})
	}
	return calls
}

func TestChapter4RequiresSigns(t *testing.T) {
	wantSignsRequired(t, lineCalls())
	for _, m := range notSigns() {
		if l, ok := impl.LoopsOf(m); l.Side != 0 || l.Across != nil || l.Down != nil || ok {
			t.Errorf("LoopsOf of %v: %v, %t", m, l, ok)
		}
		if closed, ok := impl.CountClosed(m); closed != 0 || ok {
			t.Errorf("CountClosed of %v: %d, %t", m, closed, ok)
		}
	}
}

func TestNoArgumentOfLinesIsChanged(t *testing.T) {
	wantNewMemoryOfSigns(t, lineCalls())
	for _, m := range argumentsOf() {
		argument := guarded(m)
		impl.CountClosed(argument)
		impl.WayFrom(argument, -1)
		if !untouched(argument, m) {
			t.Fatalf("%v is changed", m)
		}
	}
}

func TestNoLoopsAreChanged(t *testing.T) {
	list := notLoops()
	for n := 1; n <= 4; n++ {
		for _, m := range signMatrices(n) {
			list = append(list, loopsWanted(m))
		}
	}
	for _, l := range list {
		argument := guardedLoops(l)
		m, ok := impl.FromLoops(argument)
		want, fine := impl.FromLoops(copyLoops(l))
		if ok != fine || !sameTable(m, want) {
			t.Fatalf("FromLoops of %v: %v, %t and %v, %t", l, m, ok, want, fine)
		}
		if impl.AreLoops(argument) != ok || !rowsApart(m) || !loopsUntouched(argument, l) {
			t.Fatalf("a call of %v shares or changes memory", l)
		}
	}
}

func TestTablesOfLoopsAreApart(t *testing.T) {
	for n := 1; n <= impl.MaxSide; n++ {
		m := identity(n)
		l, _ := impl.LoopsOf(m)
		if !tablesApart([][][]int{l.Across, l.Down}) {
			t.Fatalf("tables of the loops of %d rows share memory", n)
		}
		again, ok := impl.LoopsOf(m)
		if !ok || !sameLoops(again, loopsWanted(m)) {
			t.Fatalf("LoopsOf again: %v, %t", again, ok)
		}
	}
}

func TestRowsOfLoopsMayShareMemory(t *testing.T) {
	whole := []int{1, 0, 1, 0}
	l := impl.Loops{Side: 3, Across: [][]int{whole, {0, 1, 0, 1}, whole}, Down: [][]int{whole[1:], whole[:3], whole[1:], whole[:3]}}
	wantAreLoops(t, l, looksLikeLoops(l))
	one := []int{0, 1, 1, 0}
	l = impl.Loops{Side: 1, Across: [][]int{one[1:3]}, Down: [][]int{one[:1], one[:1]}}
	m, ok := impl.FromLoops(l)
	wantTable(t, "FromLoops", m, ok, identity(1))
	if !slices.Equal(whole, []int{1, 0, 1, 0}) || !slices.Equal(one, []int{0, 1, 1, 0}) {
		t.Error("loops are changed")
	}
}

// patternArguments lists all patterns and lists that are none.
func patternArguments() [][]int {
	list := notPatterns()
	for n := 1; n <= impl.MaxSide; n++ {
		list = append(list, patternsWanted(n)...)
	}
	return list
}

func TestNoPatternIsChanged(t *testing.T) {
	for _, p := range patternArguments() {
		for _, c := range patternCalls() {
			wantNewMemory(t, c, [][]int{p})
		}
		argument := guardedRow(p)
		impl.IsPattern(argument)
		impl.PatternText(argument)
		impl.TurnPattern(argument, 101)
		if !rowUntouched(argument, p) {
			t.Fatalf("%v is changed", p)
		}
	}
}

func TestListsOfChapter4AreNew(t *testing.T) {
	for n := 1; n <= impl.MaxSide; n++ {
		for name, call := range map[string]func(n int) ([][]int, bool){
			"EndsOf":         impl.EndsOf,
			"AllPatterns":    impl.AllPatterns,
			"CountByPattern": ofCounts(impl.CountByPattern),
			"ParsePattern":   ofCounts(func(n int) ([]int, bool) { return impl.ParsePattern(strings.Repeat("()", n)) }),
		} {
			wantNewRows(t, named(name, n), func() ([][]int, bool) { return call(n) })
		}
	}
	for n := 1; n <= 4; n++ {
		for _, p := range patternsWanted(n) {
			if list, _ := impl.SignsWithPattern(p); !tablesApart(list) {
				t.Fatalf("SignsWithPattern of %v: matrices share memory", p)
			}
		}
	}
}
