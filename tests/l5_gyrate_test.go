package tests

import (
	"fmt"
	"math"
	"slices"
	"strings"
	"testing"

	"loop.example/g01123/impl"
)

// toggledAt returns the heights behind a toggle, found by trying both flips.
func toggledAt(h [][]int, i, j int) [][]int {
	for _, step := range []int{2, -2} {
		if next := withStep(h, i, j, step); looksLikeHeights(next) {
			return next
		}
	}
	return h
}

func cellsOf(n int) [][]int {
	var cells [][]int
	for i := 1; i < n; i++ {
		for j := 1; j < n; j++ {
			cells = append(cells, []int{i, j})
		}
	}
	return cells
}

func cellsOfColour(n, colour int) [][]int {
	return slices.DeleteFunc(cellsOf(n), func(c []int) bool { return (c[0]+c[1])%2 != colour })
}

func toggledWanted(h [][]int, cells [][]int) [][]int {
	for _, c := range cells {
		h = toggledAt(h, c[0], c[1])
	}
	return h
}

// colourFlipped toggles the cells of a colour from the last one to the first one, as their order must not matter.
func colourFlipped(h [][]int, colour int) [][]int {
	cells := cellsOfColour(len(h)-1, colour)
	slices.Reverse(cells)
	return toggledWanted(h, cells)
}

// signsWithHeights undoes heightsWanted.
func signsWithHeights(h [][]int) [][]int {
	n := len(h) - 1
	m := make([][]int, n)
	for i := range m {
		for j := range n {
			m[i] = append(m[i], (h[i][j+1]+h[i+1][j]-h[i][j]-h[i+1][j+1])/2)
		}
	}
	return m
}

func gyratedWanted(m [][]int) [][]int {
	return signsWithHeights(colourFlipped(colourFlipped(heightsWanted(m), 0), 1))
}

func backWanted(m [][]int) [][]int {
	return signsWithHeights(colourFlipped(colourFlipped(heightsWanted(m), 1), 0))
}

// gyrations keeps what gyration makes of each sign matrix of n rows; keys are the matrices as texts.
func gyrations(n int) map[string][][]int {
	known := map[string][][]int{}
	for _, m := range signMatrices(n) {
		known[fmt.Sprint(m)] = gyratedWanted(m)
	}
	return known
}

func orbitWanted(known map[string][][]int, m [][]int) [][][]int {
	orbit := [][][]int{m}
	for next := known[fmt.Sprint(m)]; !sameTable(next, m); next = known[fmt.Sprint(next)] {
		orbit = append(orbit, next)
	}
	return orbit
}

// lengthsWanted counts an orbit where its least matrix stands in the list of all matrices.
func lengthsWanted(n int) []int {
	known := gyrations(n)
	var lengths []int
	for _, m := range signMatrices(n) {
		if orbit := orbitWanted(known, m); sameTable(slices.MinFunc(orbit, compareTables), m) {
			lengths = append(lengths, len(orbit))
		}
	}
	return lengths
}

// eachOrbit calls check for all sign matrices of 1..5 rows and chosen ones of 6 rows with their orbits.
func eachOrbit(t *testing.T, check func(t *testing.T, m [][]int, orbit [][][]int)) {
	t.Helper()
	for n := 1; n <= impl.MaxSide; n++ {
		stride := []int{0, 1, 1, 1, 1, 1, 17}[n]
		known := gyrations(n)
		list := signMatrices(n)
		for k := 0; k < len(list); k += stride {
			check(t, list[k], orbitWanted(known, list[k]))
		}
	}
}

// wantHeightsOf compares a sign matrix by its heights.
func wantHeightsOf(t *testing.T, what string, got [][]int, ok bool, want [][]int) {
	t.Helper()
	wantTable(t, "heights of "+what, heightsWanted(got), ok && areSigns(got), want)
}

func TestFlipColour(t *testing.T) {
	upToSide(t, func(t *testing.T, m [][]int) {
		h := heightsWanted(m)
		for colour := range 2 {
			got, ok := impl.FlipColour(m, colour)
			wantHeightsOf(t, fmt.Sprintf("FlipColour of %v, %d", m, colour), got, ok, colourFlipped(h, colour))
			back, ok := impl.FlipColour(got, colour)
			wantTable(t, fmt.Sprintf("FlipColour twice of %v, %d", m, colour), back, ok, m)
		}
	})
}

func wrongColours() []int {
	return []int{-1, 2, 3, -2, 4, 1 << 32, 1<<32 + 1, math.MaxInt, math.MinInt, math.MinInt + 1}
}

func TestColoursAreRequired(t *testing.T) {
	for n := 1; n <= impl.MaxSide; n++ {
		for _, colour := range wrongColours() {
			for _, m := range [][][]int{identity(n), greatestWanted(n)} {
				got, ok := impl.FlipColour(m, colour)
				wantNoTable(t, named("FlipColour", colour), got, ok)
				got, ok = impl.FlippedCells(m, colour)
				wantNoTable(t, named("FlippedCells", colour), got, ok)
			}
		}
	}
}

// TestColoursInAnyOrder toggles the cells of a colour column by column, backwards, and from any of them on.
func TestColoursInAnyOrder(t *testing.T) {
	for n := 1; n <= 5; n++ {
		for _, m := range signMatrices(n) {
			for colour := range 2 {
				want, _ := impl.FlipColour(m, colour)
				cells := cellsOfColour(n, colour)
				byColumn := slices.Clone(cells)
				slices.SortFunc(byColumn, func(a, b []int) int { return slices.Compare([]int{a[1], a[0]}, []int{b[1], b[0]}) })
				backwards := slices.Clone(cells)
				slices.Reverse(backwards)
				orders := [][][]int{cells, byColumn, backwards}
				for k := range cells {
					orders = append(orders, slices.Concat(cells[k:], cells[:k]))
				}
				for _, order := range orders {
					got, ok := impl.ToggleCells(m, order)
					wantTable(t, fmt.Sprintf("ToggleCells of %v, %v", m, order), got, ok, want)
				}
			}
		}
	}
}

func TestFlippedCells(t *testing.T) {
	upToSide(t, func(t *testing.T, m [][]int) {
		h := heightsWanted(m)
		for colour := range 2 {
			var want [][]int
			for _, c := range cellsOfColour(len(m), colour) {
				if !sameTable(toggledAt(h, c[0], c[1]), h) {
					want = append(want, c)
				}
			}
			cells, ok := impl.FlippedCells(m, colour)
			wantTable(t, fmt.Sprintf("FlippedCells of %v, %d", m, colour), cells, ok, want)
			flipped, _ := impl.FlipColour(m, colour)
			behind, ok := impl.FollowFlips(m, cells)
			wantTable(t, fmt.Sprintf("flips of %v of %v", cells, m), behind, ok, flipped)
			again, ok := impl.FlippedCells(flipped, colour)
			wantTable(t, named("FlippedCells behind them", m), again, ok, cells)
		}
	})
}

func TestKnownFlippedCells(t *testing.T) {
	for _, c := range []struct {
		signs  string
		colour int
		cells  [][]int
	}{
		{"+", 0, nil}, {"+", 1, nil},
		{"+0/0+", 0, [][]int{{1, 1}}}, {"+0/0+", 1, nil},
		{"0+/+0", 0, [][]int{{1, 1}}}, {"0+/+0", 1, nil},
		{"+00/0+0/00+", 0, [][]int{{1, 1}, {2, 2}}}, {"+00/0+0/00+", 1, nil},
		{"00+/0+0/+00", 0, nil}, {"00+/0+0/+00", 1, [][]int{{1, 2}, {2, 1}}},
		{"0+0/+-+/0+0", 0, [][]int{{1, 1}, {2, 2}}}, {"0+0/+-+/0+0", 1, [][]int{{1, 2}, {2, 1}}},
		{"0+0/+00/00+", 0, [][]int{{1, 1}, {2, 2}}}, {"0+0/+00/00+", 1, nil},
		{"0+0/00+/+00", 0, nil}, {"0+0/00+/+00", 1, [][]int{{1, 2}, {2, 1}}},
	} {
		cells, ok := impl.FlippedCells(parsed(t, c.signs), c.colour)
		wantTable(t, fmt.Sprintf("FlippedCells of %s, %d", c.signs, c.colour), cells, ok, c.cells)
	}
}

func TestGyration(t *testing.T) {
	upToSide(t, func(t *testing.T, m [][]int) {
		want := gyratedWanted(m)
		got, ok := impl.GyrateSigns(m)
		wantTable(t, named("GyrateSigns", m), got, ok && areSigns(got), want)
		back, ok := impl.GyrateBack(got)
		wantTable(t, named("GyrateBack", got), back, ok, m)
		before, ok := impl.GyrateBack(m)
		wantTable(t, named("GyrateBack", m), before, ok && areSigns(before), backWanted(m))
		again, ok := impl.GyrateSigns(before)
		wantTable(t, named("GyrateSigns", before), again, ok, m)
	})
}

func TestGyrationFlipsBothColours(t *testing.T) {
	upToSide(t, func(t *testing.T, m [][]int) {
		first, _ := impl.FlipColour(m, 0)
		second, _ := impl.FlipColour(first, 1)
		got, ok := impl.GyrateSigns(m)
		wantTable(t, named("GyrateSigns", m), got, ok, second)
		first, _ = impl.FlipColour(m, 1)
		second, _ = impl.FlipColour(first, 0)
		got, ok = impl.GyrateBack(m)
		wantTable(t, named("GyrateBack", m), got, ok, second)
	})
}

// TestGyrationTurnsPatterns finds the lines without the program's help.
func TestGyrationTurnsPatterns(t *testing.T) {
	upToSide(t, func(t *testing.T, m [][]int) {
		p := linesWanted(m).pattern
		next, _ := impl.GyrateSigns(m)
		wantRow(t, named("pattern behind GyrateSigns", m), linesWanted(next).pattern, true, joinedAt(p, func(e int) int { return e + 1 }))
		before, _ := impl.GyrateBack(m)
		wantRow(t, named("pattern behind GyrateBack", m), linesWanted(before).pattern, true, joinedAt(p, func(e int) int { return e - 1 }))
		turned, _ := impl.TurnPattern(p, 1)
		got, ok := impl.PatternOf(next)
		wantRow(t, named("PatternOf what gyration makes", m), got, ok, turned)
	})
}

func TestStepsTurnPatterns(t *testing.T) {
	eachOrbit(t, func(t *testing.T, m [][]int, orbit [][][]int) {
		p, _ := impl.PatternOf(m)
		for _, k := range []int{0, 1, -1, 2, -2, 5, -7, 12, 13, -29, 100, -100} {
			if len(m) > 4 && max(k, -k) > 7 {
				continue
			}
			behind, _ := impl.GyrateSteps(m, k)
			got, ok := impl.PatternOf(behind)
			want, _ := impl.TurnPattern(p, k)
			wantRow(t, fmt.Sprintf("PatternOf behind %d gyrations of %v", k, m), got, ok, want)
		}
	})
}

func TestKnownGyrations(t *testing.T) {
	for _, texts := range [][]string{
		{"+"},
		{"+0/0+", "0+/+0"},
		{"+00/0+0/00+", "00+/0+0/+00", "0+0/+-+/0+0"},
		{"+00/00+/0+0", "0+0/+00/00+"},
		{"00+/+00/0+0", "0+0/00+/+00"},
		{"+000/0+00/00+0/000+", "00+0/0+-+/+-+0/0+00", "000+/00+0/0+00/+000", "0+00/+-+0/0+-+/00+0"},
	} {
		for k, text := range texts {
			next := texts[(k+1)%len(texts)]
			got, ok := impl.GyrateSigns(parsed(t, text))
			wantTable(t, "GyrateSigns of "+text, got, ok, parsed(t, next))
			back, ok := impl.GyrateBack(parsed(t, next))
			wantTable(t, "GyrateBack of "+next, back, ok, parsed(t, text))
		}
		orbit, ok := impl.GyrationOrbit(parsed(t, texts[0]))
		if got := textsOf(orbit); got != strings.Join(texts, " ") || !ok {
			t.Errorf("GyrationOrbit of %s: %s, %t", texts[0], got, ok)
		}
	}
}

func textsOf(list [][][]int) string {
	var texts []string
	for _, m := range list {
		text, _ := impl.SignText(m)
		texts = append(texts, text)
	}
	return strings.Join(texts, " ")
}

// stepNumbers lists numbers of gyrations, the limits among them.
func stepNumbers() []int {
	list := []int{-1000, -999, -500, -84, -36, -25, 25, 36, 84, 500, 999, 1000}
	for k := -13; k <= 13; k++ {
		list = append(list, k)
	}
	return list
}

func TestGyrateSteps(t *testing.T) {
	eachOrbit(t, func(t *testing.T, m [][]int, orbit [][][]int) {
		size := len(orbit)
		for _, k := range stepNumbers() {
			if len(m) > 4 && max(k, -k) > 13 {
				continue
			}
			got, ok := impl.GyrateSteps(m, k)
			wantTable(t, fmt.Sprintf("GyrateSteps of %v, %d", m, k), got, ok, orbit[(k%size+size)%size])
		}
	})
}

func TestManyStepsOfLargeMatrices(t *testing.T) {
	for n := 5; n <= impl.MaxSide; n++ {
		known := gyrations(n)
		list := signMatrices(n)
		for k := 0; k < len(list); k += len(list) / 5 {
			m := list[k]
			orbit := orbitWanted(known, m)
			size := len(orbit)
			for _, k := range stepNumbers() {
				got, ok := impl.GyrateSteps(m, k)
				wantTable(t, fmt.Sprintf("GyrateSteps of %v, %d", m, k), got, ok, orbit[(k%size+size)%size])
			}
		}
	}
}

func TestGyrateStepsUpToTheLimit(t *testing.T) {
	if impl.MaxSteps != 1000 {
		t.Error("MaxSteps", impl.MaxSteps)
	}
	for n := 1; n <= impl.MaxSide; n++ {
		for _, m := range [][][]int{identity(n), greatestWanted(n)} {
			for _, k := range []int{impl.MaxSteps, -impl.MaxSteps} {
				if got, ok := impl.GyrateSteps(m, k); !ok || !areSigns(got) {
					t.Errorf("GyrateSteps of %v, %d: %v, %t", m, k, got, ok)
				}
			}
			for _, k := range []int{1001, -1001, 1002, -1002, 2000, -2000, 1 << 32, -1 << 32, 1 << 62, math.MaxInt, math.MinInt, math.MinInt + 1} {
				got, ok := impl.GyrateSteps(m, k)
				wantNoTable(t, fmt.Sprintf("GyrateSteps of %v, %d", m, k), got, ok)
			}
		}
	}
}

func TestGyrateStepsAddUp(t *testing.T) {
	for n := 1; n <= 4; n++ {
		for _, m := range signMatrices(n) {
			for _, a := range []int{0, 1, -1, 2, -3, 7, -10} {
				for _, b := range []int{0, 1, -1, 4, -7, 10} {
					first, _ := impl.GyrateSteps(m, a)
					second, _ := impl.GyrateSteps(first, b)
					got, ok := impl.GyrateSteps(m, a+b)
					wantTable(t, fmt.Sprintf("GyrateSteps of %v, %d and %d", m, a, b), got, ok, second)
				}
			}
		}
	}
}

func TestFewGyrations(t *testing.T) {
	upToSide(t, func(t *testing.T, m [][]int) {
		none, ok := impl.GyrateSteps(m, 0)
		wantTable(t, named("no gyration", m), none, ok, m)
		next, _ := impl.GyrateSigns(m)
		once, ok := impl.GyrateSteps(m, 1)
		wantTable(t, named("one gyration", m), once, ok, next)
		before, _ := impl.GyrateBack(m)
		back, ok := impl.GyrateSteps(m, -1)
		wantTable(t, named("one gyration back", m), back, ok, before)
	})
}

func TestOrbits(t *testing.T) {
	eachOrbit(t, func(t *testing.T, m [][]int, want [][][]int) {
		orbit, ok := impl.GyrationOrbit(m)
		if !ok || !sameList(orbit, want) {
			t.Fatalf("GyrationOrbit of %v: %v, %t instead of %v", m, orbit, ok, want)
		}
		length, ok := impl.OrbitLength(m)
		wantNumber(t, named("OrbitLength", m), length, ok, len(want))
		least, ok := impl.LeastOfOrbit(m)
		wantTable(t, named("LeastOfOrbit", m), least, ok, slices.MinFunc(want, compareTables))
	})
}

// TestOrbitsShareAllMatrices uses that the least matrix names an orbit.
func TestOrbitsShareAllMatrices(t *testing.T) {
	for n := 1; n <= impl.MaxSide; n++ {
		lengths := map[string]int{}
		counts := map[string]int{}
		for _, m := range signMatrices(n) {
			least, ok := impl.LeastOfOrbit(m)
			length, fine := impl.OrbitLength(m)
			if !ok || !fine || compareTables(least, m) > 0 {
				t.Fatalf("LeastOfOrbit of %v: %v, %t", m, least, ok)
			}
			counts[fmt.Sprint(least)]++
			lengths[fmt.Sprint(least)] = length
		}
		for least, count := range counts {
			wantNumber(t, "OrbitLength of "+least, lengths[least], true, count)
		}
		wantNumber(t, named("orbits, rows", n), len(counts), true, []int{0, 1, 1, 3, 8, 51, 608}[n])
	}
}

func TestLongOrbits(t *testing.T) {
	longest := []int{0, 1, 2, 3, 8, 10, 84}
	for n := 1; n <= impl.MaxSide; n++ {
		most := 0
		for _, m := range signMatrices(n) {
			length, ok := impl.OrbitLength(m)
			if !ok {
				t.Fatalf("OrbitLength of %v fails", m)
			}
			most = max(most, length)
		}
		wantNumber(t, named("longest orbit, rows", n), most, true, longest[n])
	}
}

func TestOrbitLengths(t *testing.T) {
	for n := 1; n <= 5; n++ {
		want := lengthsWanted(n)
		lengths, ok := impl.OrbitLengths(n)
		wantRow(t, named("OrbitLengths", n), lengths, ok, want)
		count, ok := impl.CountOrbits(n)
		wantNumber(t, named("CountOrbits", n), count, ok, len(want))
		wantAllShared(t, named("OrbitLengths", n), lengths, ok, n)
	}
}

func TestKnownOrbitLengths(t *testing.T) {
	for k, want := range [][]int{{1}, {2}, {3, 2, 2}, {4, 8, 2, 8, 8, 8, 2, 2}} {
		lengths, ok := impl.OrbitLengths(k + 1)
		wantRow(t, named("OrbitLengths", k+1), lengths, ok, want)
	}
	for k, want := range []int{1, 1, 3, 8, 51} {
		count, ok := impl.CountOrbits(k + 1)
		wantNumber(t, named("CountOrbits", k+1), count, ok, want)
	}
}

func TestSizesOfChapter5AreLimited(t *testing.T) {
	for _, n := range append(sizesBeside(5), impl.MaxSide, impl.MaxSide+1) {
		lengths, ok := impl.OrbitLengths(n)
		wantNoRow(t, named("OrbitLengths", n), lengths, ok)
		if count, ok := impl.CountOrbits(n); count != 0 || ok {
			t.Errorf("CountOrbits of %d: %d, %t", n, count, ok)
		}
		for _, k := range []int{-1, 0, 1, impl.MaxSteps, impl.MaxSteps + 1} {
			if count, ok := impl.CountFixed(n, k); count != 0 || ok {
				t.Errorf("CountFixed of %d, %d: %d, %t", n, k, count, ok)
			}
		}
	}
}

// TestCountFixed goes on by one gyration of all matrices at a time.
func TestCountFixed(t *testing.T) {
	for n := 1; n <= 5; n++ {
		known := gyrations(n)
		list := signMatrices(n)
		now := slices.Clone(list)
		for k := range 45 {
			want := 0
			for rank, m := range now {
				want += oneIf(sameTable(m, list[rank]))
				now[rank] = known[fmt.Sprint(m)]
			}
			got, ok := impl.CountFixed(n, k)
			wantNumber(t, fmt.Sprintf("CountFixed of %d, %d", n, k), got, ok, want)
		}
	}
}

func TestCountFixedUpToTheLimit(t *testing.T) {
	for n := 1; n <= 5; n++ {
		lengths := lengthsWanted(n)
		stride := []int{0, 1, 1, 1, 1, 25}[n]
		for k := 0; k <= impl.MaxSteps; k += stride {
			want := 0
			for _, length := range lengths {
				want += length * oneIf(k%length == 0)
			}
			got, ok := impl.CountFixed(n, k)
			wantNumber(t, fmt.Sprintf("CountFixed of %d, %d", n, k), got, ok, want)
		}
		all, _ := impl.CountSigns(n)
		got, ok := impl.CountFixed(n, 0)
		wantNumber(t, named("CountFixed behind none", n), got, ok, all)
		for _, k := range []int{-1, -2, -1000, 1001, 1002, 2000, 1 << 32, math.MaxInt, math.MinInt} {
			if got, ok := impl.CountFixed(n, k); got != 0 || ok {
				t.Errorf("CountFixed of %d, %d: %d, %t", n, k, got, ok)
			}
		}
	}
}

func TestKnownCountFixed(t *testing.T) {
	for _, c := range []struct{ n, k, want int }{
		{1, 0, 1}, {1, 1, 1}, {1, 1000, 1}, {2, 0, 2}, {2, 1, 0}, {2, 2, 2}, {2, 999, 0}, {2, 1000, 2},
		{3, 0, 7}, {3, 1, 0}, {3, 2, 4}, {3, 3, 3}, {3, 6, 7}, {3, 1000, 4}, {3, 999, 3}, {3, 996, 7},
		{4, 2, 6}, {4, 4, 10}, {4, 8, 42}, {4, 3, 0}, {5, 1, 0}, {5, 2, 8}, {5, 4, 24}, {5, 5, 25}, {5, 10, 413}, {5, 20, 429}, {5, 1000, 429}, {5, 0, 429},
	} {
		got, ok := impl.CountFixed(c.n, c.k)
		wantNumber(t, fmt.Sprintf("CountFixed of %d, %d", c.n, c.k), got, ok, c.want)
	}
}

// periodWanted turns a pattern by all numbers until it is the same.
func periodWanted(p []int) int {
	for by := 1; ; by++ {
		if slices.Equal(joinedAt(p, func(e int) int { return e + by }), p) {
			return by
		}
	}
}

func TestPatternPeriod(t *testing.T) {
	for n := 1; n <= impl.MaxSide; n++ {
		for _, p := range patternsWanted(n) {
			period, ok := impl.PatternPeriod(p)
			wantNumber(t, named("PatternPeriod", p), period, ok, periodWanted(p))
			if 2*n%period != 0 {
				t.Errorf("PatternPeriod of %v: %d", p, period)
			}
			turned, _ := impl.TurnPattern(p, 1)
			same, ok := impl.PatternPeriod(turned)
			wantNumber(t, named("PatternPeriod of the turned one", p), same, ok, period)
		}
	}
}

func TestKnownPatternPeriods(t *testing.T) {
	for text, want := range map[string]int{
		"()": 1, "()()": 2, "(())": 2, "()()()": 2, "(()())": 2, "((()))": 3, "(())()": 3, "()(())": 3, "(())(())": 4, "()()()()": 2, "(()())()": 8,
		"()()()()()()": 2, "(())(())(())": 4, "((()))((()))": 6, "(()()())()()": 12, "(((((())))))": 6,
	} {
		period, ok := impl.PatternPeriod(patternOf(t, text))
		wantNumber(t, "PatternPeriod of "+text, period, ok, want)
	}
}

func TestPeriodsDivideOrbits(t *testing.T) {
	upToSide(t, func(t *testing.T, m [][]int) {
		p, _ := impl.PatternOf(m)
		period, ok := impl.PatternPeriod(p)
		length, fine := impl.OrbitLength(m)
		if !ok || !fine || length%period != 0 {
			t.Fatalf("%v has an orbit of %d and a pattern with the period %d", m, length, period)
		}
	})
}

func TestPeriodsRequirePatterns(t *testing.T) {
	for _, p := range notPatterns() {
		if period, ok := impl.PatternPeriod(p); period != 0 || ok {
			t.Errorf("PatternPeriod of %v: %d, %t", p[:min(len(p), 15)], period, ok)
		}
	}
}

func TestRowWave(t *testing.T) {
	upToSide(t, func(t *testing.T, m [][]int) {
		cells := cellsOf(len(m))
		got, ok := impl.RowWave(m)
		wantHeightsOf(t, named("RowWave", m), got, ok, toggledWanted(heightsWanted(m), cells))
		toggled, ok := impl.ToggleCells(m, cells)
		wantTable(t, named("ToggleCells of all", m), toggled, ok, got)
		slices.Reverse(cells)
		back, ok := impl.ToggleCells(got, cells)
		wantTable(t, named("ToggleCells of all backwards", m), back, ok, m)
	})
}

func TestKnownRowWaves(t *testing.T) {
	for from, to := range map[string]string{
		"+": "+", "+0/0+": "0+/+0", "0+/+0": "+0/0+",
		"+00/0+0/00+": "0+0/+-+/0+0", "0+0/+-+/0+0": "+00/0+0/00+",
		"00+/0+0/+00": "0+0/+00/00+", "0+0/+00/00+": "+00/00+/0+0", "+00/00+/0+0": "00+/0+0/+00",
		"0+0/00+/+00": "00+/+00/0+0", "00+/+00/0+0": "0+0/00+/+00",
	} {
		got, ok := impl.RowWave(parsed(t, from))
		wantTable(t, "RowWave of "+from, got, ok, parsed(t, to))
	}
}

// someCells tells a list of cells that visits all of them in a rough order, some of them more than once.
func someCells(n, count, seed int) [][]int {
	all := cellsOf(n)
	var cells [][]int
	for k := range count {
		seed = (seed*7 + k*k + 3) % 1009
		cells = append(cells, all[seed%len(all)])
	}
	return cells
}

func TestToggleCells(t *testing.T) {
	for n := 2; n <= impl.MaxSide; n++ {
		list := signMatrices(n)
		stride := []int{0, 0, 1, 1, 1, 11, 211}[n]
		for k := 0; k < len(list); k += stride {
			m := list[k]
			for _, count := range []int{0, 1, 2, 5, 40, 199, 200} {
				cells := someCells(n, count, k)
				got, ok := impl.ToggleCells(m, cells)
				wantHeightsOf(t, fmt.Sprintf("ToggleCells of %v, %v", m, cells), got, ok, toggledWanted(heightsWanted(m), cells))
				slices.Reverse(cells)
				back, ok := impl.ToggleCells(got, cells)
				wantTable(t, fmt.Sprintf("ToggleCells of %v back", m), back, ok, m)
			}
		}
	}
}

// TestToggleOneCell toggles flipped cells and those that no flip reaches.
func TestToggleOneCell(t *testing.T) {
	upToSide(t, func(t *testing.T, m [][]int) {
		for _, c := range cellsOf(len(m)) {
			flipped, can := impl.FlipAt(m, c[0], c[1])
			if !can {
				flipped = m
			}
			got, ok := impl.ToggleCells(m, [][]int{c})
			wantTable(t, fmt.Sprintf("ToggleCells of %v, %v", m, c), got, ok, flipped)
		}
	})
}

func TestToggleCellsUpToTheLimit(t *testing.T) {
	for count := range 201 {
		want := identity(2)
		if count%2 == 1 {
			want = greatestWanted(2)
		}
		got, ok := impl.ToggleCells(identity(2), manyFlips(count))
		wantTable(t, named("ToggleCells, a number", count), got, ok, want)
	}
	for _, count := range []int{201, 202, 1000} {
		got, ok := impl.ToggleCells(identity(2), manyFlips(count))
		wantNoTable(t, named("ToggleCells, a number", count), got, ok)
		// Cells that no flip reaches count, too.
		got, ok = impl.ToggleCells(identity(3), slices.Repeat([][]int{{1, 2}}, count))
		wantNoTable(t, named("ToggleCells without flips, a number", count), got, ok)
	}
	got, ok := impl.ToggleCells(identity(3), slices.Repeat([][]int{{1, 2}}, 200))
	wantTable(t, "ToggleCells without flips", got, ok, identity(3))
}

func TestToggleCellsFails(t *testing.T) {
	short := []int{1, 1}
	places := [][]int{nil, {}, {1}, {2}, short[:1], {1, 1, 1}, {1, 1, 0}, {2, 2, 2}, make([]int, 100000)}
	for n := 1; n <= impl.MaxSide; n++ {
		m := identity(n)
		for _, bad := range append(places, badCells(n)...) {
			name := fmt.Sprintf("ToggleCells of %v with %v", m, bad[:min(len(bad), 5)])
			for _, cells := range [][][]int{{bad}, {bad, bad}, {bad, {1, 1}}, {{1, 1}, bad}, {{1, 1}, bad, {1, 1}}, append(manyFlips(198), bad, []int{1, 1}), append(manyFlips(199), bad)} {
				got, ok := impl.ToggleCells(m, cells)
				wantNoTable(t, name, got, ok)
			}
		}
	}
}

func TestGyrationOfOneRow(t *testing.T) {
	one := identity(1)
	for _, c := range gyrateCalls() {
		got, ok := c.call(one)
		switch c.name {
		case "ToggleCells of one":
			wantNoTable(t, c.name, got, ok)
		case named("FlippedCells", 0), named("FlippedCells", 1):
			wantTable(t, c.name, got, ok, nil)
		default:
			wantTable(t, c.name, got, ok, one)
		}
	}
	orbit, ok := impl.GyrationOrbit(one)
	if !ok || !sameList(orbit, [][][]int{one}) {
		t.Errorf("GyrationOrbit: %v, %t", orbit, ok)
	}
	length, ok := impl.OrbitLength(one)
	wantNumber(t, "OrbitLength", length, ok, 1)
	period, ok := impl.PatternPeriod([]int{1, 0})
	wantNumber(t, "PatternPeriod", period, ok, 1)
}

func TestGivenExampleOfGyration(t *testing.T) {
	got, ok := impl.GyrateSigns(parsed(t, "+00/0+0/00+"))
	wantTable(t, "GyrateSigns", got, ok, parsed(t, "00+/0+0/+00"))
	got, ok = impl.GyrateSigns(parsed(t, "0+0/+-+/0+0"))
	wantTable(t, "GyrateSigns", got, ok, parsed(t, "+00/0+0/00+"))
	orbit, ok := impl.GyrationOrbit(identity(2))
	if !ok || !sameList(orbit, [][][]int{identity(2), greatestWanted(2)}) {
		t.Errorf("GyrationOrbit: %v, %t", orbit, ok)
	}
	count, ok := impl.CountOrbits(2)
	wantNumber(t, "CountOrbits", count, ok, 1)
}

// gyrateCalls are the functions of chapter 5 that make a table of a sign matrix.
func gyrateCalls() []tableCall {
	calls := []tableCall{
		{"GyrateSigns", impl.GyrateSigns},
		{"GyrateBack", impl.GyrateBack},
		{"LeastOfOrbit", impl.LeastOfOrbit},
		{"RowWave", impl.RowWave},
		{"rows of GyrationOrbit", func(m [][]int) ([][]int, bool) {
			orbit, ok := impl.GyrationOrbit(m)
			return slices.Concat(orbit...), ok
		}},
		{"ToggleCells of none", func(m [][]int) ([][]int, bool) { return impl.ToggleCells(m, nil) }},
		{"ToggleCells of one", func(m [][]int) ([][]int, bool) { return impl.ToggleCells(m, [][]int{{1, 1}}) }},
	}
	for colour := range 2 {
		calls = append(calls,
			tableCall{named("FlipColour", colour), func(m [][]int) ([][]int, bool) { return impl.FlipColour(m, colour) }},
			tableCall{named("FlippedCells", colour), func(m [][]int) ([][]int, bool) { return impl.FlippedCells(m, colour) }})
	}
	for _, k := range []int{0, 1, -1, 17, impl.MaxSteps, -impl.MaxSteps} {
		calls = append(calls, tableCall{named("GyrateSteps", k), func(m [][]int) ([][]int, bool) { return impl.GyrateSteps(m, k) }})
	}
	return calls
}

func TestChapter5RequiresSigns(t *testing.T) {
	wantSignsRequired(t, gyrateCalls())
	for _, m := range notSigns() {
		if orbit, ok := impl.GyrationOrbit(m); len(orbit) != 0 || ok {
			t.Errorf("GyrationOrbit of %v: %v, %t", m, orbit, ok)
		}
		if length, ok := impl.OrbitLength(m); length != 0 || ok {
			t.Errorf("OrbitLength of %v: %d, %t", m, length, ok)
		}
		for _, wrong := range wrongColours() {
			got, ok := impl.FlipColour(m, wrong)
			wantNoTable(t, named("FlipColour of a wrong colour", m), got, ok)
			got, ok = impl.FlippedCells(m, wrong)
			wantNoTable(t, named("FlippedCells of a wrong colour", m), got, ok)
		}
	}
}

func TestNoArgumentOfGyrationIsChanged(t *testing.T) {
	wantNewMemoryOfSigns(t, gyrateCalls())
	for _, m := range argumentsOf() {
		argument := guarded(m)
		impl.OrbitLength(argument)
		impl.FlipColour(argument, 2)
		impl.FlippedCells(argument, -1)
		impl.GyrateSteps(argument, impl.MaxSteps+1)
		impl.ToggleCells(argument, [][]int{{0, 0}})
		if !untouched(argument, m) {
			t.Fatalf("%v is changed", m)
		}
	}
}

func TestMatricesOfOrbitsAreApart(t *testing.T) {
	for n := 1; n <= 4; n++ {
		for _, m := range signMatrices(n) {
			if orbit, _ := impl.GyrationOrbit(m); !tablesApart(orbit) {
				t.Fatalf("matrices of the orbit of %v share memory", m)
			}
		}
	}
}

func TestNoCellsAreChanged(t *testing.T) { wantCellsKept(t, "ToggleCells", impl.ToggleCells) }

func TestCellsMayShareMemory(t *testing.T) {
	place := []int{1, 1, 2, 2}
	got, ok := impl.ToggleCells(identity(3), [][]int{place[:2], place[2:], place[1:3], place[:2]})
	wantHeightsOf(t, "ToggleCells", got, ok, toggledWanted(heightsWanted(identity(3)), [][]int{{1, 1}, {2, 2}, {1, 2}, {1, 1}}))
	if !slices.Equal(place, []int{1, 1, 2, 2}) {
		t.Error("cells are changed")
	}
}

func TestNoPatternOfPeriodsIsChanged(t *testing.T) {
	for _, p := range patternArguments() {
		argument := guardedRow(p)
		impl.PatternPeriod(argument)
		if !rowUntouched(argument, p) {
			t.Fatalf("%v is changed", p)
		}
	}
}

func TestListedOrbitsAreNew(t *testing.T) {
	for n := 1; n <= 5; n++ {
		wantNewRows(t, named("OrbitLengths", n), func() ([][]int, bool) { return ofCounts(impl.OrbitLengths)(n) })
	}
}
