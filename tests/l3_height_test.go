package tests

import (
	"fmt"
	"math"
	"slices"
	"testing"

	"loop.example/g01123/impl"
)

// heightsWanted tells the heights as the document does.
func heightsWanted(m [][]int) [][]int {
	h := make([][]int, len(m)+1)
	for i := range h {
		for j := range h {
			h[i] = append(h[i], i+j-2*sumUpTo(m, i-1, j-1))
		}
	}
	return h
}

func areNeighbours(v, w int) bool { return v == w+1 || v == w-1 }

// looksLikeHeights is another way than the program's to tell heights among tables of any rows: by the numbers at the four sides and by the steps from place to place.
func looksLikeHeights(h [][]int) bool {
	n := len(h) - 1
	if n < 1 || n > impl.MaxSide {
		return false
	}
	for i, row := range h {
		if len(row) != n+1 || row[0] != i || row[n] != n-i {
			return false
		}
		for j, v := range row {
			if i == 0 && v != j || i == n && v != n-j {
				return false
			}
			if i > 0 && !areNeighbours(v, h[i-1][j]) || j > 0 && !areNeighbours(v, row[j-1]) {
				return false
			}
		}
	}
	return true
}

// withStep copies a table and adds a step to one of its numbers.
func withStep(h [][]int, i, j, step int) [][]int {
	changed := copyTable(h)
	changed[i][j] += step
	return changed
}

// flipsWanted tries all cells of a table of heights.
func flipsWanted(h [][]int, step int) [][]int {
	var cells [][]int
	for i := 1; i < len(h)-1; i++ {
		for j := 1; j < len(h)-1; j++ {
			if looksLikeHeights(withStep(h, i, j, step)) {
				cells = append(cells, []int{i, j})
			}
		}
	}
	return cells
}

// allBelow compares two tables of heights in each place.
func allBelow(h, g [][]int) bool {
	for i, row := range h {
		for j, v := range row {
			if v > g[i][j] {
				return false
			}
		}
	}
	return true
}

// eachPlace makes a table of two others with as many rows.
func eachPlace(h, g [][]int, choose func(v, w int) int) [][]int {
	out := copyTable(h)
	for i, row := range out {
		for j, v := range row {
			row[j] = choose(v, g[i][j])
		}
	}
	return out
}

func lesserOf(v, w int) int { return min(v, w) }

func greaterOf(v, w int) int { return max(v, w) }

func differenceOf(v, w int) int { return max(v-w, w-v) }

func sumOfTable(h [][]int) int {
	sum := 0
	for _, row := range h {
		for _, v := range row {
			sum += v
		}
	}
	return sum
}

// greatestWanted has its ones from the right end of the first row to the left end of the last one.
func greatestWanted(n int) [][]int {
	m := identity(n)
	slices.Reverse(m)
	return m
}

// somePairs calls check for all pairs of sign matrices of 1..4 rows and for chosen ones of 5 and 6 rows.
func somePairs(t *testing.T, check func(t *testing.T, m, k [][]int)) {
	t.Helper()
	for n := 1; n <= impl.MaxSide; n++ {
		list := signMatrices(n)
		stride := []int{0, 1, 1, 1, 1, 7, 103}[n]
		for a := 0; a < len(list); a += stride {
			for b := 0; b < len(list); b += stride {
				check(t, list[a], list[b])
			}
			check(t, list[a], identity(n))
			check(t, greatestWanted(n), list[a])
		}
	}
}

func TestHeightsAndSignsUndoEachOther(t *testing.T) {
	upToSide(t, func(t *testing.T, m [][]int) {
		want := heightsWanted(m)
		h, ok := impl.HeightsOf(m)
		wantTable(t, named("HeightsOf", m), h, ok, want)
		if !looksLikeHeights(h) || !impl.AreHeights(h) {
			t.Fatalf("AreHeights of %v: false", h)
		}
		back, ok := impl.FromHeights(want)
		wantTable(t, named("FromHeights", want), back, ok, m)
	})
}

func wantHeights(t *testing.T, h [][]int, want bool) {
	t.Helper()
	if got := impl.AreHeights(h); got != want {
		t.Fatalf("AreHeights of %v: %t", h, got)
	}
	m, ok := impl.FromHeights(h)
	if !want {
		wantNoTable(t, named("FromHeights", h), m, ok)
		return
	}
	if !ok || !areSigns(m) {
		t.Fatalf("FromHeights of %v: %v, %t", h, m, ok)
	}
	wantTable(t, named("heights", m), heightsWanted(m), true, h)
}

func TestAreHeightsAmongAllTables(t *testing.T) {
	counts := []int{0, 0, 0, 0}
	for side, ends := range [][]int{{-2, 4}, {-3, 4}, {-1, 2}} {
		tablesOf(side+1, ends[0], ends[1], func(h [][]int) {
			want := looksLikeHeights(h)
			wantHeights(t, h, want)
			if want {
				counts[side+1]++
			}
		})
	}
	if !slices.Equal(counts, []int{0, 0, 1, 2}) {
		t.Errorf("heights found: %v", counts)
	}
}

func TestAreHeightsAmongAllInsides(t *testing.T) {
	count := 0
	tablesOf(2, -3, 5, func(inside [][]int) {
		h := heightsWanted(identity(3))
		copy(h[1][1:], inside[0])
		copy(h[2][1:], inside[1])
		want := looksLikeHeights(h)
		wantHeights(t, h, want)
		if want {
			count++
		}
	})
	if count != 7 {
		t.Errorf("%d heights found", count)
	}
}

func TestAreHeightsBesideHeights(t *testing.T) {
	for n := 1; n <= 4; n++ {
		for _, m := range signMatrices(n) {
			h := heightsWanted(m)
			for place := range (n + 1) * (n + 1) {
				for _, step := range []int{-4, -2, -1, 1, 2, 4, math.MinInt, math.MaxInt} {
					changed := withStep(h, place/(n+1), place%(n+1), step)
					wantHeights(t, changed, looksLikeHeights(changed))
				}
			}
		}
	}
}

// notHeights lists tables that are no heights: of the wrong shape, or heights that are shifted, turned over or stretched.
func notHeights() [][][]int {
	list := append(notSquare(), [][][]int{
		{{0}}, {{1}}, {{0, 1}}, {{0}, {1}}, {{0, 1}, {1}}, {{0, 1}, {1, 0}, {0, 1}}, {{0, 1, 2}, {1, 0, 1}},
		{{0, 1, 2}, {1, 0, 1}, {2, 1}}, {{0, 1, 2}, {1, 0, 1}, {2, 1, 0, 1}}, {{0, 1, 2}, {1, 0, 1, 0}, {2, 1, 0}}, {{0, 1, 2}, nil, {2, 1, 0}},
		{{0, 0}, {0, 0}}, {{0, 1}, {1, 2}}, {{0, 1}, {1, -2}}, {{0, -1}, {-1, 0}}, {{1, 0}, {0, 1}}, {{0, 1}, {1, 1}}, {{0, 2}, {1, 0}}, {{2, 3}, {3, 2}},
		{{0, 1, 2}, {1, 1, 1}, {2, 1, 0}}, {{0, 1, 2}, {1, -2, 1}, {2, 1, 0}}, {{0, 1, 2}, {1, 4, 1}, {2, 1, 0}}, {{0, 2, 4}, {2, 0, 2}, {4, 2, 0}},
		{{math.MinInt, math.MaxInt}, {math.MaxInt, math.MinInt}}, {{0, 1}, {1, math.MinInt}}, {{0, math.MaxInt}, {1, 0}},
		{{0, 1, 2}, {1, math.MinInt, 1}, {2, 1, 0}}, {{0, 1, 2}, {1, math.MaxInt, 1}, {2, 1, 0}},
	}...)
	for n := 1; n <= impl.MaxSide; n++ {
		for _, m := range [][][]int{identity(n), greatestWanted(n)} {
			h := heightsWanted(m)
			list = append(list, h[:n], h[1:])
			for _, change := range []func(v, w int) int{
				func(v, w int) int { return v + 1 },
				func(v, w int) int { return v + 2 },
				func(v, w int) int { return v - 2 },
				func(v, w int) int { return -v },
				func(v, w int) int { return 2 * v },
				func(v, w int) int { return v + math.MinInt },
				func(v, w int) int { return n - v },
			} {
				list = append(list, eachPlace(h, h, change))
			}
		}
	}
	return append(list, heightsWanted(identity(impl.MaxSide+1)), heightsWanted(identity(50)), make([][]int, 7), make([][]int, 100000))
}

func TestHeightsAreRequired(t *testing.T) {
	for _, h := range notHeights() {
		if looksLikeHeights(h) {
			t.Fatalf("%v are heights", h)
		}
		wantHeights(t, h, false)
	}
}

func TestIsBelow(t *testing.T) {
	somePairs(t, func(t *testing.T, m, k [][]int) {
		want := allBelow(heightsWanted(m), heightsWanted(k))
		if is, ok := impl.IsBelow(m, k); is != want || !ok {
			t.Fatalf("IsBelow of %v and %v: %t, %t", m, k, is, ok)
		}
	})
}

func TestIsBelowIsAnOrder(t *testing.T) {
	somePairs(t, func(t *testing.T, m, k [][]int) {
		up, fine := impl.IsBelow(m, k)
		down, ok := impl.IsBelow(k, m)
		if !fine || !ok || (up && down) != sameTable(m, k) {
			t.Fatalf("IsBelow of %v and %v both ways: %t, %t", m, k, up, down)
		}
	})
}

func TestMeetsAndJoins(t *testing.T) {
	somePairs(t, func(t *testing.T, m, k [][]int) {
		h, g := heightsWanted(m), heightsWanted(k)
		meet, ok := impl.MeetOf(m, k)
		wantTable(t, "heights of MeetOf", heightsWanted(meet), ok && areSigns(meet), eachPlace(h, g, lesserOf))
		join, ok := impl.JoinOf(m, k)
		wantTable(t, "heights of JoinOf", heightsWanted(join), ok && areSigns(join), eachPlace(h, g, greaterOf))
	})
}

func TestHeightsAreALattice(t *testing.T) {
	for n := 1; n <= 4; n++ {
		list := signMatrices(n)
		for _, m := range list {
			for _, k := range list {
				meet, _ := impl.MeetOf(m, k)
				join, _ := impl.JoinOf(m, k)
				for _, other := range list {
					underBoth := isBelow(other, m) && isBelow(other, k)
					overBoth := isBelow(m, other) && isBelow(k, other)
					if underBoth != isBelow(other, meet) || overBoth != isBelow(join, other) {
						t.Fatalf("%v and %v have the meet %v and the join %v, but there is %v", m, k, meet, join, other)
					}
				}
			}
		}
	}
}

func isBelow(m, k [][]int) bool {
	is, _ := impl.IsBelow(m, k)
	return is
}

func TestLatticeLaws(t *testing.T) {
	somePairs(t, func(t *testing.T, m, k [][]int) {
		meet, _ := impl.MeetOf(m, k)
		join, _ := impl.JoinOf(m, k)
		got, ok := impl.MeetOf(k, m)
		wantTable(t, "MeetOf the other way", got, ok, meet)
		got, ok = impl.JoinOf(k, m)
		wantTable(t, "JoinOf the other way", got, ok, join)
		got, ok = impl.JoinOf(m, meet)
		wantTable(t, "JoinOf a meet", got, ok, m)
		got, ok = impl.MeetOf(m, join)
		wantTable(t, "MeetOf a join", got, ok, m)
	})
}

func TestMatrixWithItself(t *testing.T) {
	upToSide(t, func(t *testing.T, m [][]int) {
		meet, ok := impl.MeetOf(m, m)
		wantTable(t, "MeetOf itself", meet, ok, m)
		join, ok := impl.JoinOf(m, m)
		wantTable(t, "JoinOf itself", join, ok, m)
		distance, ok := impl.FlipDistance(m, m)
		wantNumber(t, "FlipDistance to itself", distance, ok, 0)
		path, ok := impl.FlipPath(m, m)
		wantTable(t, "FlipPath to itself", path, ok, nil)
		same, ok := impl.FollowFlips(m, path)
		wantTable(t, "FollowFlips of none", same, ok, m)
		if !isBelow(m, m) {
			t.Fatalf("%v is not below itself", m)
		}
		between, ok := impl.CountBetween(m, m)
		if len(m) <= 4 {
			wantNumber(t, "CountBetween itself", between, ok, 1)
		} else if between != 0 || ok {
			t.Fatalf("CountBetween of %v: %d, %t", m, between, ok)
		}
	})
}

func TestLeastAndGreatestSigns(t *testing.T) {
	for n := 1; n <= impl.MaxSide; n++ {
		least, ok := impl.LeastSigns(n)
		wantTable(t, named("LeastSigns", n), least, ok, identity(n))
		greatest, ok := impl.GreatestSigns(n)
		wantTable(t, named("GreatestSigns", n), greatest, ok, greatestWanted(n))
		flips, ok := impl.FlipsOf(least, false)
		wantTable(t, named("flips down of LeastSigns", n), flips, ok, nil)
		flips, ok = impl.FlipsOf(greatest, true)
		wantTable(t, named("flips up of GreatestSigns", n), flips, ok, nil)
		rank, ok := impl.RankOf(least)
		wantNumber(t, named("RankOf LeastSigns", n), rank, ok, 0)
		rank, ok = impl.RankOf(greatest)
		wantNumber(t, named("RankOf GreatestSigns", n), rank, ok, n*(n*n-1)/6)
		for _, m := range signMatrices(n) {
			if !isBelow(least, m) || !isBelow(m, greatest) {
				t.Fatalf("%v is not between %v and %v", m, least, greatest)
			}
		}
	}
}

func TestFlipsOf(t *testing.T) {
	upToSide(t, func(t *testing.T, m [][]int) {
		h := heightsWanted(m)
		up, ok := impl.FlipsOf(m, true)
		wantTable(t, named("flips up", m), up, ok, flipsWanted(h, 2))
		down, ok := impl.FlipsOf(m, false)
		wantTable(t, named("flips down", m), down, ok, flipsWanted(h, -2))
	})
}

// flipWanted returns the heights behind the flip of a place, or nil if there is no such flip.
func flipWanted(h [][]int, i, j int) [][]int {
	for _, step := range []int{2, -2} {
		if slices.ContainsFunc(flipsWanted(h, step), func(c []int) bool { return slices.Equal(c, []int{i, j}) }) {
			return withStep(h, i, j, step)
		}
	}
	return nil
}

func TestFlipAt(t *testing.T) {
	for n := 1; n <= 5; n++ {
		for _, m := range signMatrices(n) {
			h := heightsWanted(m)
			for i := -1; i <= n+1; i++ {
				for j := -1; j <= n+1; j++ {
					name := fmt.Sprintf("FlipAt of %v at %d, %d", m, i, j)
					got, ok := impl.FlipAt(m, i, j)
					want := flipWanted(h, i, j)
					if want == nil {
						wantNoTable(t, name, got, ok)
						continue
					}
					wantTable(t, name, heightsWanted(got), ok, want)
					back, ok := impl.FlipAt(got, i, j)
					wantTable(t, name+" and back", back, ok, m)
				}
			}
		}
	}
}

// badCells lists what is no cell of a matrix with n rows, as two numbers.
func badCells(n int) [][]int {
	return [][]int{
		{0, 0}, {0, 1}, {1, 0}, {n, 1}, {1, n}, {n, n}, {n, 0}, {0, n}, {n + 1, 1}, {1, n + 1}, {-1, 1}, {1, -1}, {-1, -1},
		{7, 1}, {1, 7}, {8, 1}, {1, 8}, {math.MaxInt, 1}, {1, math.MaxInt}, {math.MinInt, 1}, {1, math.MinInt}, {math.MinInt, math.MaxInt},
	}
}

func TestCellsOutsideAreNotFlipped(t *testing.T) {
	for n := 1; n <= impl.MaxSide; n++ {
		for _, m := range [][][]int{identity(n), greatestWanted(n)} {
			for _, c := range badCells(n) {
				got, ok := impl.FlipAt(m, c[0], c[1])
				wantNoTable(t, named("FlipAt", c), got, ok)
				got, ok = impl.FollowFlips(m, [][]int{c})
				wantNoTable(t, named("FollowFlips", c), got, ok)
			}
		}
	}
}

// stepsFrom tells how many flips lead to each matrix at least, by going out from m; keys are the heights.
func stepsFrom(m [][]int) map[string]int {
	list := [][][]int{heightsWanted(m)}
	steps := map[string]int{fmt.Sprint(list[0]): 0}
	for k := 0; k < len(list); k++ {
		h := list[k]
		for _, step := range []int{2, -2} {
			for _, c := range flipsWanted(h, step) {
				next := withStep(h, c[0], c[1], step)
				if _, known := steps[fmt.Sprint(next)]; !known {
					steps[fmt.Sprint(next)] = steps[fmt.Sprint(h)] + 1
					list = append(list, next)
				}
			}
		}
	}
	return steps
}

func TestFlipsLeadToAllMatrices(t *testing.T) {
	for n := 1; n <= 4; n++ {
		list := signMatrices(n)
		for _, m := range list {
			steps := stepsFrom(m)
			wantNumber(t, "matrices that flips lead to", len(steps), true, len(list))
			for _, k := range list {
				got, ok := impl.FlipDistance(m, k)
				wantNumber(t, fmt.Sprintf("FlipDistance of %v and %v", m, k), got, ok, steps[fmt.Sprint(heightsWanted(k))])
			}
		}
	}
}

func TestRankOf(t *testing.T) {
	for n := 1; n <= 5; n++ {
		steps := stepsFrom(identity(n))
		for _, m := range signMatrices(n) {
			got, ok := impl.RankOf(m)
			wantNumber(t, named("RankOf", m), got, ok, steps[fmt.Sprint(heightsWanted(m))])
		}
	}
	upToSide(t, func(t *testing.T, m [][]int) {
		got, ok := impl.RankOf(m)
		wantNumber(t, named("RankOf", m), got, ok, (sumOfTable(heightsWanted(m))-sumOfTable(heightsWanted(identity(len(m)))))/2)
	})
}

func TestFlipDistance(t *testing.T) {
	somePairs(t, func(t *testing.T, m, k [][]int) {
		got, ok := impl.FlipDistance(m, k)
		wantNumber(t, fmt.Sprintf("FlipDistance of %v and %v", m, k), got, ok, sumOfTable(eachPlace(heightsWanted(m), heightsWanted(k), differenceOf))/2)
	})
}

// nextFlipWanted returns the cell that a path flips next, and the heights behind it.
func nextFlipWanted(h, goal [][]int) ([]int, [][]int) {
	for _, step := range []int{2, -2} {
		for _, c := range flipsWanted(h, step) {
			i, j := c[0], c[1]
			if step > 0 && h[i][j] < goal[i][j] || step < 0 && h[i][j] > goal[i][j] {
				return c, withStep(h, i, j, step)
			}
		}
	}
	return nil, h
}

func pathWanted(m, k [][]int) [][]int {
	h, goal := heightsWanted(m), heightsWanted(k)
	var path [][]int
	for {
		c, next := nextFlipWanted(h, goal)
		if c == nil {
			return path
		}
		path = append(path, c)
		h = next
	}
}

func TestFlipPaths(t *testing.T) {
	somePairs(t, func(t *testing.T, m, k [][]int) {
		name := fmt.Sprintf("FlipPath of %v and %v", m, k)
		path, ok := impl.FlipPath(m, k)
		wantTable(t, name, path, ok, pathWanted(m, k))
		distance, ok := impl.FlipDistance(m, k)
		wantNumber(t, "length of "+name, len(path), ok, distance)
		behind, ok := impl.FollowFlips(m, path)
		wantTable(t, name+" followed", behind, ok, k)
	})
}

func parsed(t *testing.T, text string) [][]int {
	t.Helper()
	m, ok := impl.ParseSigns(text)
	if !ok {
		t.Fatalf("%s is no text of signs", text)
	}
	return m
}

func TestKnownFlipPaths(t *testing.T) {
	for _, c := range []struct {
		from, to string
		path     [][]int
	}{
		{"+", "+", nil},
		{"+0/0+", "0+/+0", [][]int{{1, 1}}},
		{"0+/+0", "+0/0+", [][]int{{1, 1}}},
		{"+00/0+0/00+", "00+/0+0/+00", [][]int{{1, 1}, {2, 2}, {1, 2}, {2, 1}}},
		{"00+/0+0/+00", "+00/0+0/00+", [][]int{{1, 2}, {2, 1}, {1, 1}, {2, 2}}},
		{"0+0/+00/00+", "+00/00+/0+0", [][]int{{2, 2}, {1, 1}}},
		{"+00/00+/0+0", "0+0/+00/00+", [][]int{{1, 1}, {2, 2}}},
		{"0+0/00+/+00", "00+/+00/0+0", [][]int{{1, 2}, {2, 1}}},
		{"00+/+00/0+0", "0+0/00+/+00", [][]int{{2, 1}, {1, 2}}},
	} {
		path, ok := impl.FlipPath(parsed(t, c.from), parsed(t, c.to))
		wantTable(t, "FlipPath from "+c.from+" to "+c.to, path, ok, c.path)
	}
}

// manyFlips tells the same cell some times.
func manyFlips(count int) [][]int {
	var path [][]int
	for range count {
		path = append(path, []int{1, 1})
	}
	return path
}

func TestFollowFlipsUpToTheLimit(t *testing.T) {
	least, greatest := identity(2), greatestWanted(2)
	for count := range 201 {
		want := least
		if count%2 == 1 {
			want = greatest
		}
		got, ok := impl.FollowFlips(least, manyFlips(count))
		wantTable(t, named("FollowFlips, a number", count), got, ok, want)
	}
	for _, count := range []int{201, 202, 1000} {
		got, ok := impl.FollowFlips(least, manyFlips(count))
		wantNoTable(t, named("FollowFlips, a number", count), got, ok)
	}
}

func TestFollowFlipsOfOneRow(t *testing.T) {
	got, ok := impl.FollowFlips(identity(1), nil)
	wantTable(t, "FollowFlips of none", got, ok, identity(1))
	got, ok = impl.FollowFlips(identity(1), [][]int{{1, 1}})
	wantNoTable(t, "FollowFlips of one", got, ok)
}

func TestFollowFlipsFails(t *testing.T) {
	short := []int{1, 1}
	places := [][]int{nil, {}, {1}, {2}, short[:1], {1, 1, 1}, {1, 1, 0}, {2, 2, 2}, {1, 2}, {2, 1}, make([]int, 100000)}
	m := identity(3)
	for _, bad := range append(places, badCells(3)...) {
		name := fmt.Sprint(bad[:min(len(bad), 5)])
		for _, path := range [][][]int{{bad}, {bad, {1, 1}}, {{1, 1}, bad}, {{2, 2}, bad, {2, 2}}, append(manyFlips(198), bad, []int{1, 1}), append(manyFlips(199), bad)} {
			got, ok := impl.FollowFlips(m, path)
			wantNoTable(t, "FollowFlips with "+name, got, ok)
		}
	}
	// Behind the flips of 1, 1 and 2, 2 the cell 1, 2 can be flipped, but behind one of them it cannot.
	got, ok := impl.FollowFlips(m, [][]int{{1, 1}, {2, 2}, {1, 2}})
	wantTable(t, "FollowFlips of three", got, ok, parsed(t, "00+/+00/0+0"))
	for _, first := range [][]int{{1, 1}, {2, 2}} {
		got, ok = impl.FollowFlips(m, [][]int{first, {1, 2}})
		wantNoTable(t, "FollowFlips of two", got, ok)
	}
}

func TestCountBetween(t *testing.T) {
	for n := 1; n <= 4; n++ {
		list := signMatrices(n)
		for _, m := range list {
			for _, k := range list {
				want := 0
				for _, between := range list {
					if h := heightsWanted(between); allBelow(heightsWanted(m), h) && allBelow(h, heightsWanted(k)) {
						want++
					}
				}
				got, ok := impl.CountBetween(m, k)
				wantNumber(t, fmt.Sprintf("CountBetween of %v and %v", m, k), got, ok, want)
			}
		}
	}
}

func TestCountBetweenEnds(t *testing.T) {
	for n := 1; n <= impl.MaxSide; n++ {
		least, greatest := identity(n), greatestWanted(n)
		between, fine := impl.CountBetween(least, greatest)
		none, ok := impl.CountBetween(greatest, least)
		if n > 4 {
			if between != 0 || fine || none != 0 || ok {
				t.Errorf("CountBetween for %d rows: %d, %t and %d, %t", n, between, fine, none, ok)
			}
			continue
		}
		want, _ := impl.CountSigns(n)
		wantNumber(t, named("CountBetween of the ends", n), between, fine, want)
		if n > 1 {
			wantNumber(t, named("CountBetween of the ends, exchanged", n), none, ok, 0)
		}
	}
}

func TestNeitherIsBelow(t *testing.T) {
	m, k := parsed(t, "+00/00+/0+0"), parsed(t, "0+0/+00/00+")
	for _, pair := range [][2][][]int{{m, k}, {k, m}} {
		if is, ok := impl.IsBelow(pair[0], pair[1]); is || !ok {
			t.Errorf("IsBelow: %t, %t", is, ok)
		}
		between, ok := impl.CountBetween(pair[0], pair[1])
		wantNumber(t, "CountBetween", between, ok, 0)
		meet, ok := impl.MeetOf(pair[0], pair[1])
		wantTable(t, "MeetOf", meet, ok, identity(3))
		join, ok := impl.JoinOf(pair[0], pair[1])
		wantTable(t, "JoinOf", join, ok, parsed(t, "0+0/+-+/0+0"))
		distance, ok := impl.FlipDistance(pair[0], pair[1])
		wantNumber(t, "FlipDistance", distance, ok, 2)
	}
}

func TestIsJoinPart(t *testing.T) {
	for n := 1; n <= impl.MaxSide; n++ {
		count := 0
		for _, m := range signMatrices(n) {
			want := len(flipsWanted(heightsWanted(m), -2)) == 1
			if is, ok := impl.IsJoinPart(m); is != want || !ok {
				t.Fatalf("IsJoinPart of %v: %t, %t", m, is, ok)
			}
			if want {
				count++
			}
		}
		wantNumber(t, named("join parts", n), count, true, n*(n*n-1)/6)
	}
}

func TestJoinPartsAreNoJoins(t *testing.T) {
	for n := 1; n <= 4; n++ {
		list := signMatrices(n)
		for _, m := range list {
			isJoin := sameTable(m, identity(n))
			for _, a := range list {
				for _, b := range list {
					join, _ := impl.JoinOf(a, b)
					isJoin = isJoin || sameTable(join, m) && !sameTable(a, m) && !sameTable(b, m)
				}
			}
			if is, ok := impl.IsJoinPart(m); is == isJoin || !ok {
				t.Fatalf("IsJoinPart of %v: %t, %t", m, is, ok)
			}
		}
	}
}

// waysUp counts the ways of flips up that lead from heights to those that none leads from; known keeps what has been counted.
func waysUp(h [][]int, known map[string]int) int {
	cells := flipsWanted(h, 2)
	if len(cells) == 0 {
		return 1
	}
	key := fmt.Sprint(h)
	if count, ok := known[key]; ok {
		return count
	}
	count := 0
	for _, c := range cells {
		count += waysUp(withStep(h, c[0], c[1], 2), known)
	}
	known[key] = count
	return count
}

func TestCountChains(t *testing.T) {
	for k, want := range []int{1, 1, 4, 1792} {
		got, ok := impl.CountChains(k + 1)
		wantNumber(t, named("CountChains", k+1), got, ok, want)
		wantNumber(t, named("ways up", k+1), waysUp(heightsWanted(identity(k+1)), map[string]int{}), true, want)
	}
	if impl.MaxChains != 1000000000 {
		t.Error("MaxChains", impl.MaxChains)
	}
}

func TestSizesOfChapter3AreLimited(t *testing.T) {
	for _, n := range sizesBeside(impl.MaxSide) {
		m, ok := impl.LeastSigns(n)
		wantNoTable(t, named("LeastSigns", n), m, ok)
		m, ok = impl.GreatestSigns(n)
		wantNoTable(t, named("GreatestSigns", n), m, ok)
	}
	for _, n := range append(sizesBeside(4), impl.MaxSide, impl.MaxSide+1) {
		if count, ok := impl.CountChains(n); count != 0 || ok {
			t.Errorf("CountChains of %d: %d, %t", n, count, ok)
		}
	}
}

func TestDualOf(t *testing.T) {
	upToSide(t, func(t *testing.T, m [][]int) {
		dual, ok := impl.DualOf(m)
		wantTable(t, named("DualOf", m), dual, ok, placed(m, func(i, j, last int) (int, int) { return i, last - j }))
	})
	somePairs(t, func(t *testing.T, m, k [][]int) {
		dual, _ := impl.DualOf(m)
		other, _ := impl.DualOf(k)
		if isBelow(dual, other) != isBelow(k, m) {
			t.Fatalf("duals of %v and %v", m, k)
		}
	})
}

func TestHeightsOfOneRow(t *testing.T) {
	one := identity(1)
	h, ok := impl.HeightsOf(one)
	wantTable(t, "HeightsOf", h, ok, [][]int{{0, 1}, {1, 0}})
	for _, up := range []bool{true, false} {
		flips, ok := impl.FlipsOf(one, up)
		wantTable(t, named("FlipsOf", up), flips, ok, nil)
	}
	for i := -1; i <= 2; i++ {
		for j := -1; j <= 2; j++ {
			got, ok := impl.FlipAt(one, i, j)
			wantNoTable(t, named("FlipAt", []int{i, j}), got, ok)
		}
	}
	if is, ok := impl.IsJoinPart(one); is || !ok {
		t.Error("IsJoinPart", is, ok)
	}
	rank, ok := impl.RankOf(one)
	wantNumber(t, "RankOf", rank, ok, 0)
	dual, ok := impl.DualOf(one)
	wantTable(t, "DualOf", dual, ok, one)
}

func TestGivenExampleOfHeights(t *testing.T) {
	m := parsed(t, "0+/+0")
	h, ok := impl.HeightsOf(m)
	wantTable(t, "HeightsOf", h, ok, [][]int{{0, 1, 2}, {1, 2, 1}, {2, 1, 0}})
	flips, ok := impl.FlipsOf(m, false)
	wantTable(t, "flips down", flips, ok, [][]int{{1, 1}})
	flips, ok = impl.FlipsOf(m, true)
	wantTable(t, "flips up", flips, ok, nil)
	down, ok := impl.FlipAt(m, 1, 1)
	wantTable(t, "FlipAt", down, ok, identity(2))
	rank, ok := impl.RankOf(parsed(t, "0+0/+-+/0+0"))
	wantNumber(t, "RankOf", rank, ok, 2)
}

// isZero is a call of which only counts whether its first result is zero, and its last one.
type isZero func(m, k [][]int) (bool, bool)

func zeroOfTable(call func(m, k [][]int) ([][]int, bool)) isZero {
	return func(m, k [][]int) (bool, bool) {
		got, ok := call(m, k)
		return len(got) == 0, ok
	}
}

func zeroOfNumber(call func(m, k [][]int) (int, bool)) isZero {
	return func(m, k [][]int) (bool, bool) {
		got, ok := call(m, k)
		return got == 0, ok
	}
}

// pairCalls are the functions of chapter 3 of two sign matrices.
func pairCalls() map[string]isZero {
	return map[string]isZero{
		"IsBelow": func(m, k [][]int) (bool, bool) {
			is, ok := impl.IsBelow(m, k)
			return !is, ok
		},
		"MeetOf":       zeroOfTable(impl.MeetOf),
		"JoinOf":       zeroOfTable(impl.JoinOf),
		"FlipPath":     zeroOfTable(impl.FlipPath),
		"FlipDistance": zeroOfNumber(impl.FlipDistance),
		"CountBetween": zeroOfNumber(impl.CountBetween),
	}
}

// heightCalls are the functions of chapter 3 that make a table of a sign matrix, those of two among them.
func heightCalls() []tableCall {
	dual := func(m [][]int) [][]int {
		k, _ := impl.DualOf(m)
		return k
	}
	return []tableCall{
		{"HeightsOf", impl.HeightsOf},
		{"flips up", func(m [][]int) ([][]int, bool) { return impl.FlipsOf(m, true) }},
		{"flips down", func(m [][]int) ([][]int, bool) { return impl.FlipsOf(m, false) }},
		{"FlipAt", func(m [][]int) ([][]int, bool) { return impl.FlipAt(m, 1, 1) }},
		{"FollowFlips of none", func(m [][]int) ([][]int, bool) { return impl.FollowFlips(m, nil) }},
		{"FollowFlips of two", func(m [][]int) ([][]int, bool) { return impl.FollowFlips(m, manyFlips(2)) }},
		{"MeetOf itself", func(m [][]int) ([][]int, bool) { return impl.MeetOf(m, m) }},
		{"JoinOf itself", func(m [][]int) ([][]int, bool) { return impl.JoinOf(m, m) }},
		{"FlipPath to itself", func(m [][]int) ([][]int, bool) { return impl.FlipPath(m, m) }},
		{"MeetOf it and its dual", func(m [][]int) ([][]int, bool) { return impl.MeetOf(m, dual(m)) }},
		{"JoinOf it and its dual", func(m [][]int) ([][]int, bool) { return impl.JoinOf(m, dual(m)) }},
		{"FlipPath to its dual", func(m [][]int) ([][]int, bool) { return impl.FlipPath(m, dual(m)) }},
		{"DualOf", impl.DualOf},
	}
}

func TestChapter3RequiresSigns(t *testing.T) {
	wantSignsRequired(t, heightCalls())
	for _, m := range notSigns() {
		if rank, ok := impl.RankOf(m); rank != 0 || ok {
			t.Errorf("RankOf of %v: %d, %t", m, rank, ok)
		}
		if is, ok := impl.IsJoinPart(m); is || ok {
			t.Errorf("IsJoinPart of %v: %t, %t", m, is, ok)
		}
	}
}

func TestPairsAreRequired(t *testing.T) {
	for name, call := range pairCalls() {
		for _, bad := range notSigns() {
			good := identity(max(1, min(len(bad), impl.MaxSide)))
			for _, pair := range [][2][][]int{{bad, good}, {good, bad}, {bad, bad}} {
				if zero, ok := call(pair[0], pair[1]); !zero || ok {
					t.Errorf("%s of %v and %v: %t", name, pair[0], pair[1], ok)
				}
			}
		}
		for n := 1; n <= impl.MaxSide; n++ {
			for size := 1; size <= impl.MaxSide; size++ {
				zero, ok := call(identity(n), greatestWanted(size))
				if n != size && (!zero || ok) {
					t.Errorf("%s of %d and %d rows: %t", name, n, size, ok)
				}
				if n == size && ok != (n <= 4 || name != "CountBetween") {
					t.Errorf("%s of %d rows: %t", name, n, ok)
				}
			}
		}
	}
}

func TestNoArgumentOfHeightsIsChanged(t *testing.T) {
	wantNewMemoryOfSigns(t, heightCalls())
	for _, m := range argumentsOf() {
		argument := guarded(m)
		impl.RankOf(argument)
		impl.IsJoinPart(argument)
		impl.AreHeights(argument)
		if !untouched(argument, m) {
			t.Fatalf("%v is changed", m)
		}
	}
}

func TestNoHeightsAreChanged(t *testing.T) {
	list := notHeights()
	for n := 1; n <= 4; n++ {
		for _, m := range signMatrices(n) {
			list = append(list, heightsWanted(m))
		}
	}
	for _, h := range list {
		wantNewMemory(t, tableCall{"FromHeights", impl.FromHeights}, h)
		argument := guarded(h)
		impl.AreHeights(argument)
		if !untouched(argument, h) {
			t.Fatalf("%v is changed", h)
		}
	}
}

func TestNoPairIsChanged(t *testing.T) {
	list := append(notSigns(), identity(5), greatestWanted(5), identity(6), greatestWanted(6))
	for n := 1; n <= 3; n++ {
		list = append(list, signMatrices(n)...)
	}
	for _, m := range list {
		for _, k := range list {
			first, second := guarded(m), guarded(k)
			for _, call := range []func(m, k [][]int) ([][]int, bool){impl.MeetOf, impl.JoinOf, impl.FlipPath} {
				got, _ := call(first, second)
				if !rowsApart(got) || !untouched(first, m) || !untouched(second, k) {
					t.Fatalf("a call of %v and %v shares or changes memory", m, k)
				}
			}
			for _, call := range pairCalls() {
				call(first, second)
			}
			if !untouched(first, m) || !untouched(second, k) {
				t.Fatalf("%v or %v is changed", m, k)
			}
		}
	}
}

// wantCellsKept checks a function of a sign matrix and a list of cells with good and bad lists.
func wantCellsKept(t *testing.T, name string, call func(m, cells [][]int) ([][]int, bool)) {
	t.Helper()
	m := identity(3)
	for _, cells := range [][][]int{
		nil, {}, {{1, 1}}, {{1, 1}, {2, 2}, {1, 2}}, {{2, 2}, {2, 2}}, {{1, 2}}, {{1}}, {{1, 1, 1}}, {{}}, {nil}, {{0, 3}}, {{1, 1}, {3, 3}}, manyFlips(200), manyFlips(201),
	} {
		matrix, argument := guarded(m), guarded(cells)
		got, ok := call(matrix, argument)
		want, fine := call(copyTable(m), copyTable(cells))
		if ok != fine || !sameTable(got, want) {
			t.Fatalf("%s of %v: %v, %t and %v, %t", name, cells, got, ok, want, fine)
		}
		if !rowsApart(got) || !untouched(matrix, m) || !untouched(argument, cells) {
			t.Fatalf("%s of %v shares or changes memory", name, cells)
		}
	}
}

func TestNoPathIsChanged(t *testing.T) { wantCellsKept(t, "FollowFlips", impl.FollowFlips) }

func TestPlacesOfAPathMayShareMemory(t *testing.T) {
	place := []int{1, 1}
	got, ok := impl.FollowFlips(identity(2), [][]int{place, place, place})
	wantTable(t, "FollowFlips", got, ok, greatestWanted(2))
}

func TestEndsAreNew(t *testing.T) {
	for n := 1; n <= impl.MaxSide; n++ {
		for k, call := range []func(n int) ([][]int, bool){impl.LeastSigns, impl.GreatestSigns} {
			want := [][][]int{identity(n), greatestWanted(n)}[k]
			m, _ := call(n)
			if !rowsApart(m) {
				t.Fatalf("the ends of %d rows share memory", n)
			}
			again, ok := call(n)
			wantTable(t, named("the ends again", n), again, ok, want)
		}
	}
}
