package tests

import (
	"fmt"
	"math"
	"math/big"
	"slices"
	"testing"

	"loop.example/g01123/impl"
)

// mostListed is the greatest number of rows for which ListSymmetric lists and CountUpToAll counts.
const mostListed = 5

// imageWanted tells what the symmetry of a number makes of a matrix, place by place.
func imageWanted(m [][]int, number int) [][]int {
	order := []int{3, 0, 4, 5, 1, 2, 6, 7}
	return placed(m, eightWays()[order[number]])
}

func isKept(m [][]int, number int) bool { return sameTable(imageWanted(m, number), m) }

func isOfKindWanted(m [][]int, kind int) bool {
	switch kind {
	case impl.KindHalf:
		return isKept(m, 2)
	case impl.KindQuarter:
		return isKept(m, 1)
	case impl.KindMirror:
		return isKept(m, 4)
	case impl.KindTurned:
		return sameTable(flipped(m), m)
	default:
		return isKept(m, 4) && isKept(m, 6)
	}
}

// ofKindWanted lists the sign matrices of n rows of a kind, in order.
func ofKindWanted(n, kind int) [][][]int {
	return slices.DeleteFunc(signMatrices(n), func(m [][]int) bool { return !isOfKindWanted(m, kind) })
}

// orbitOfWanted puts each image at its place in the list, unless it is there.
func orbitOfWanted(m [][]int) [][][]int {
	var orbit [][][]int
	for number := range 8 {
		image := imageWanted(m, number)
		place, found := slices.BinarySearchFunc(orbit, image, compareTables)
		if !found {
			orbit = slices.Insert(orbit, place, image)
		}
	}
	return orbit
}

// leftWanted takes the columns before the one in the middle.
func leftWanted(m [][]int) [][]int {
	half := make([][]int, len(m))
	for i, row := range m {
		for j := 0; 2*j+1 < len(m); j++ {
			half[i] = append(half[i], row[j])
		}
	}
	return half
}

func upperWanted(m [][]int) [][]int { return copyTable(m[:len(m)/2]) }

// byHalf finds the matrices of a kind by the halves that half makes of them.
func byHalf(kind int, sizes []int, half func(m [][]int) [][]int) map[string][][]int {
	known := map[string][][]int{}
	for _, n := range sizes {
		for _, m := range ofKindWanted(n, kind) {
			known[fmt.Sprint(half(m))] = m
		}
	}
	return known
}

func byLeftHalf() map[string][][]int { return byHalf(impl.KindMirror, []int{1, 3, 5}, leftWanted) }

func byUpperHalf() map[string][][]int { return byHalf(impl.KindHalf, []int{2, 4, 6}, upperWanted) }

// wantFromHalf checks that a table has the matrix that is known to have it as a half, or none.
func wantFromHalf(t *testing.T, c tableCall, rows [][]int, known map[string][][]int) bool {
	t.Helper()
	m, ok := c.call(rows)
	want, found := known[fmt.Sprint(rows)]
	if !found {
		wantNoTable(t, named(c.name, rows), m, ok)
		return false
	}
	wantTable(t, named(c.name, rows), m, ok, want)
	return true
}

func fromLeft() tableCall { return tableCall{"FromLeftHalf", impl.FromLeftHalf} }

func fromUpper() tableCall { return tableCall{"FromUpperHalf", impl.FromUpperHalf} }

// cut makes rows of the numbers of a list.
func cut(list []int, rows, columns int) [][]int {
	table := make([][]int, rows)
	for i := range table {
		table[i] = slices.Clone(list[i*columns : (i+1)*columns])
	}
	return table
}

// wantHalvesAmong tries all tables of a size and checks of how many there is a matrix.
func wantHalvesAmong(t *testing.T, c tableCall, rows, columns, most, count int, known map[string][][]int) {
	t.Helper()
	got := eachList(rows*columns, -most, most, func(list []int) bool {
		return wantFromHalf(t, c, cut(list, rows, columns), known)
	})
	wantNumber(t, fmt.Sprintf("%s of %d rows of %d numbers", c.name, rows, columns), got, true, count)
}

// wantBesideHalves changes each number, or the shape, of halves.
func wantBesideHalves(t *testing.T, c tableCall, known map[string][][]int, half func(m [][]int) [][]int) {
	t.Helper()
	for _, m := range known {
		rows := half(m)
		for i := range rows {
			for j, v := range rows[i] {
				for _, other := range append(numbersBeside(-1, 1), -1, 0, 1, v+2, v-2) {
					rows[i][j] = other
					wantFromHalf(t, c, rows, known)
				}
				rows[i][j] = v
			}
		}
		for _, changed := range reshaped(rows) {
			wantFromHalf(t, c, changed, known)
		}
	}
}

// reshaped lists tables that have a row or a number more or less than another one.
func reshaped(rows [][]int) [][][]int {
	list := [][][]int{rows[1:], rows[:len(rows)-1], append(copyTable(rows), rows[0]), append([][]int{nil}, rows...)}
	all := copyTable(rows)
	for i, row := range rows {
		long, less, none := copyTable(rows), copyTable(rows), copyTable(rows)
		long[i] = append(long[i], 0)
		less[i] = less[i][:max(0, len(row)-1)]
		none[i] = nil
		all[i] = append(all[i], 0)
		list = append(list, long, less, none)
	}
	return append(list, all)
}

func TestSymmetriesAreNumbered(t *testing.T) {
	for n := 1; n <= 5; n++ {
		for _, m := range signMatrices(n) {
			for number, letters := range []string{"", "t", "tt", "ttt", "m", "tm", "ttm", "tttm"} {
				wantTable(t, fmt.Sprintf("symmetry %d of %v", number, m), through(m, letters), true, imageWanted(m, number))
			}
		}
	}
}

func wantHasSymmetry(t *testing.T, m [][]int, kind int, want bool) {
	t.Helper()
	if has, ok := impl.HasSymmetry(m, kind); has != want || !ok {
		t.Fatalf("HasSymmetry of %v, %d: %t, %t instead of %t", m, kind, has, ok, want)
	}
}

func TestHasSymmetry(t *testing.T) {
	upToSide(t, func(t *testing.T, m [][]int) {
		for kind := range impl.Kinds {
			wantHasSymmetry(t, m, kind, isOfKindWanted(m, kind))
		}
	})
}

func TestSymmetriesOf(t *testing.T) {
	upToSide(t, func(t *testing.T, m [][]int) {
		var want []int
		for number := range 8 {
			if isKept(m, number) {
				want = append(want, number)
			}
		}
		numbers, ok := impl.SymmetriesOf(m)
		wantRow(t, named("SymmetriesOf", m), numbers, ok, want)
	})
}

func TestSymmetriesAndKindsAgree(t *testing.T) {
	upToSide(t, func(t *testing.T, m [][]int) {
		numbers, _ := impl.SymmetriesOf(m)
		for kind, needed := range [][]int{{2}, {1}, {4}, {5}, {4, 6}} {
			want := !slices.ContainsFunc(needed, func(number int) bool { return !slices.Contains(numbers, number) })
			wantHasSymmetry(t, m, kind, want)
		}
		transposed, _ := impl.TransposeMatrix(m)
		wantHasSymmetry(t, m, impl.KindTurned, sameTable(transposed, m))
	})
}

func TestKnownSymmetries(t *testing.T) {
	half, quarter, mirror, turned, both := impl.KindHalf, impl.KindQuarter, impl.KindMirror, impl.KindTurned, impl.KindBoth
	all := []int{0, 1, 2, 3, 4, 5, 6, 7}
	for _, c := range []struct {
		text           string
		numbers, kinds []int
	}{
		{"+", all, []int{half, quarter, mirror, turned, both}},
		{"0+/+0", []int{0, 2, 5, 7}, []int{half, turned}},
		{"+0/0+", []int{0, 2, 5, 7}, []int{half, turned}},
		{"0+0/+-+/0+0", all, []int{half, quarter, mirror, turned, both}},
		{"+00/0+0/00+", []int{0, 2, 5, 7}, []int{half, turned}},
		{"0+0/00+/+00", []int{0, 7}, nil},
		{"0+0/+00/00+", []int{0, 5}, []int{turned}},
		{"000+/0+00/+000/00+0", []int{0}, nil},
		{"00+0/+000/000+/0+00", []int{0, 1, 2, 3}, []int{half, quarter}},
		{"000+0/00+00/+0-0+/00+00/0+000", []int{0, 2}, []int{half}},
		// Either mirror alone, and both of them.
		{"00+00/0+-+0/00+00/+0-0+/00+00", []int{0, 4}, []int{mirror}},
		{"000+0/0+000/+-+-+/0+000/000+0", []int{0, 6}, nil},
		{"00+00/0+-+0/+-+-+/0+-+0/00+00", all, []int{half, quarter, mirror, turned, both}},
		{"00000+/00+000/0000+0/0+0000/000+00/+00000", []int{0, 2}, []int{half}},
	} {
		m := parsed(t, c.text)
		numbers, ok := impl.SymmetriesOf(m)
		wantRow(t, named("SymmetriesOf", c.text), numbers, ok, c.numbers)
		for kind := range impl.Kinds {
			wantHasSymmetry(t, m, kind, slices.Contains(c.kinds, kind))
		}
	}
}

func TestListSymmetric(t *testing.T) {
	for n := 1; n <= mostListed; n++ {
		for kind := range impl.Kinds {
			list, ok := impl.ListSymmetric(n, kind)
			if !ok || !sameList(list, ofKindWanted(n, kind)) {
				t.Fatalf("ListSymmetric of %d, %d: %v, %t", n, kind, list, ok)
			}
			count, ok := impl.CountSymmetric(n, kind)
			wantNumber(t, fmt.Sprintf("CountSymmetric of %d, %d", n, kind), count, ok, len(list))
		}
	}
}

func TestCountSymmetric(t *testing.T) {
	for kind, counts := range [][]int{{1, 2, 3, 10, 25, 140}, {1, 0, 1, 2, 3, 0}, {1, 0, 1, 0, 3, 0}, {1, 2, 5, 16, 67, 368}, {1, 0, 1, 0, 1, 0}} {
		for k, want := range counts {
			count, ok := impl.CountSymmetric(k+1, kind)
			wantNumber(t, fmt.Sprintf("CountSymmetric of %d, %d", k+1, kind), count, ok, want)
			wantNumber(t, fmt.Sprintf("matrices with %d rows of %d", k+1, kind), len(ofKindWanted(k+1, kind)), ok, want)
		}
	}
}

// wantNotCounted checks that nothing is listed, and nothing counted but for the number of rows that only CountSymmetric takes.
func wantNotCounted(t *testing.T, n, kind int) {
	t.Helper()
	if list, ok := impl.ListSymmetric(n, kind); len(list) != 0 || ok {
		t.Errorf("ListSymmetric of %d, %d: %d matrices, %t", n, kind, len(list), ok)
	}
	if n == impl.MaxSide && 0 <= kind && kind < impl.Kinds {
		return
	}
	count, ok := impl.CountSymmetric(n, kind)
	wantNoNumber(t, fmt.Sprintf("CountSymmetric of %d, %d", n, kind), count, ok)
}

func TestSizesOfChapter9AreLimited(t *testing.T) {
	for _, n := range append(numbersBeside(1, mostListed), numbersBeside(1, impl.MaxSide)...) {
		for kind := range impl.Kinds {
			wantNotCounted(t, n, kind)
		}
	}
	for _, n := range append(sizesBeside(mostListed), numbersBeside(1, mostListed)...) {
		count, ok := impl.CountUpToAll(n)
		wantNoNumber(t, named("CountUpToAll", n), count, ok)
	}
	for _, n := range append(sizesBeside(6), numbersBeside(1, 6)...) {
		count, ok := impl.HalfTurnFormula(n)
		wantNoNumber(t, named("HalfTurnFormula", n), count, ok)
	}
	for _, n := range append(sizesBeside(5)[1:], numbersBeside(0, 5)...) {
		count, ok := impl.MirrorFormula(n)
		wantNoNumber(t, named("MirrorFormula", n), count, ok)
	}
}

func TestKindsAreRequired(t *testing.T) {
	for _, kind := range numbersBeside(0, impl.Kinds-1) {
		for _, n := range []int{0, 1, 2, 3, 4, 5, 6, 7, -1, math.MaxInt, math.MinInt} {
			wantNotCounted(t, n, kind)
		}
		for _, m := range argumentsOf() {
			wantNoSymmetry(t, m, kind)
		}
	}
}

func wantNoSymmetry(t *testing.T, m [][]int, kind int) {
	t.Helper()
	if has, ok := impl.HasSymmetry(m, kind); has || ok {
		t.Errorf("HasSymmetry of %v, %d: %t, %t instead of a failure", m, kind, has, ok)
	}
}

// factorial may be of any size.
func factorial(n int) *big.Rat {
	return new(big.Rat).SetInt(new(big.Int).MulRange(1, int64(n)))
}

func productOf(factors ...*big.Rat) *big.Rat {
	product := big.NewRat(1, 1)
	for _, factor := range factors {
		product.Mul(product, factor)
	}
	return product
}

// halfTurnWanted multiplies and divides as the document does.
func halfTurnWanted(n int) *big.Rat {
	product := big.NewRat(1, 1)
	for k := range n {
		product.Mul(product, productOf(factorial(3*k+1), new(big.Rat).Inv(factorial(n+k))))
	}
	for i := 1; i <= n; i++ {
		product.Mul(product, big.NewRat(int64(3*i-1), int64(3*i-2)))
		for j := i; j <= n; j++ {
			product.Mul(product, big.NewRat(int64(n+i+j-1), int64(2*i+j-1)))
		}
	}
	return product
}

func mirrorWanted(n int) *big.Rat {
	product := big.NewRat(1, 1)
	for i := 1; i <= n; i++ {
		below := productOf(big.NewRat(2, 1), factorial(4*i-1), factorial(4*i-2))
		product.Mul(product, productOf(factorial(6*i-2), factorial(2*i-1), below.Inv(below)))
	}
	return product
}

// wantFormula checks a count that is known, that a formula tells, and that a list has where there may be one.
func wantFormula(t *testing.T, what string, got int, ok bool, known int, formula *big.Rat, rows, kind int) {
	t.Helper()
	wantNumber(t, what, got, ok, known)
	if formula.Cmp(big.NewRat(int64(got), 1)) != 0 {
		t.Fatalf("%s: %d instead of %v", what, got, formula)
	}
	if rows <= impl.MaxSide {
		count, ok := impl.CountSymmetric(rows, kind)
		wantNumber(t, fmt.Sprintf("CountSymmetric of %d, %d", rows, kind), count, ok, got)
	}
}

func TestFormulas(t *testing.T) {
	for k, known := range []int{2, 10, 140, 5544, 622908, 198846076} {
		n := k + 1
		count, ok := impl.HalfTurnFormula(n)
		wantFormula(t, named("HalfTurnFormula", n), count, ok, known, halfTurnWanted(n), 2*n, impl.KindHalf)
	}
	for n, known := range []int{1, 1, 3, 26, 646, 45885} {
		count, ok := impl.MirrorFormula(n)
		wantFormula(t, named("MirrorFormula", n), count, ok, known, mirrorWanted(n), 2*n+1, impl.KindMirror)
	}
	for n := 2; n <= impl.MaxSide; n += 2 {
		count, ok := impl.CountSymmetric(n, impl.KindMirror)
		wantNumber(t, named("CountSymmetric, mirrored,", n), count, ok, 0)
	}
}

func TestOrbitOf(t *testing.T) {
	upToSide(t, func(t *testing.T, m [][]int) {
		orbit, ok := impl.OrbitOf(m)
		if !ok || !sameList(orbit, orbitOfWanted(m)) {
			t.Fatalf("OrbitOf %v: %v, %t", m, orbit, ok)
		}
		numbers, ok := impl.SymmetriesOf(m)
		wantNumber(t, named("matrices and symmetries", m), len(orbit)*len(numbers), ok, 8)
		least, ok := impl.LeastOfTurns(m)
		wantTable(t, named("LeastOfTurns", m), least, ok, orbit[0])
	})
}

func TestMatricesOfAnOrbitHaveTheSame(t *testing.T) {
	for n := 1; n <= mostListed; n++ {
		for _, m := range signMatrices(n) {
			orbit, _ := impl.OrbitOf(m)
			for _, image := range orbit {
				again, ok := impl.OrbitOf(image)
				if !ok || !sameList(again, orbit) {
					t.Fatalf("OrbitOf %v: %v, %t instead of %v", image, again, ok, orbit)
				}
			}
		}
	}
}

func TestKnownOrbits(t *testing.T) {
	for _, want := range [][]string{
		{"+"},
		{"0+/+0", "+0/0+"},
		{"0+0/+-+/0+0"},
		{"00+/0+0/+00", "+00/0+0/00+"},
		{"00+/+00/0+0", "0+0/00+/+00", "0+0/+00/00+", "+00/00+/0+0"},
		{"00+0/+000/000+/0+00", "0+00/000+/+000/00+0"},
		{"000+0/0+000/+-+-+/0+000/000+0", "00+00/0+-+0/00+00/+0-0+/00+00", "00+00/+0-0+/00+00/0+-+0/00+00", "0+000/000+0/+-+-+/000+0/0+000"},
		{"000+/0+00/+000/00+0", "000+/+000/00+0/0+00", "00+0/0+00/000+/+000", "00+0/+000/0+00/000+", "0+00/000+/00+0/+000", "0+00/00+0/+000/000+", "+000/000+/0+00/00+0", "+000/00+0/000+/0+00"},
	} {
		for _, text := range want {
			orbit, ok := impl.OrbitOf(parsed(t, text))
			var list [][][]int
			for _, each := range want {
				list = append(list, parsed(t, each))
			}
			if !ok || !sameList(orbit, list) {
				t.Fatalf("OrbitOf %s: %s, %t", text, textsOf(orbit), ok)
			}
		}
	}
}

func TestCountUpToAll(t *testing.T) {
	for k, want := range []int{1, 1, 3, 11, 75} {
		n := k + 1
		orbits := map[string]bool{}
		kept := 0
		for _, m := range signMatrices(n) {
			orbit, _ := impl.OrbitOf(m)
			orbits[fmt.Sprint(orbit)] = true
			for number := range 8 {
				kept += oneIf(isKept(m, number))
			}
		}
		count, ok := impl.CountUpToAll(n)
		wantNumber(t, named("CountUpToAll", n), count, ok, want)
		wantNumber(t, named("orbits", n), len(orbits), ok, want)
		wantNumber(t, named("symmetries of all", n), kept, ok, 8*want)
	}
}

func TestHalvesAndMatricesUndoEachOther(t *testing.T) {
	upToSide(t, func(t *testing.T, m [][]int) {
		left, ok := impl.LeftHalf(m)
		if isOfKindWanted(m, impl.KindMirror) {
			wantTable(t, named("LeftHalf", m), left, ok, leftWanted(m))
			back, ok := impl.FromLeftHalf(left)
			wantTable(t, named("FromLeftHalf", left), back, ok, m)
		} else {
			wantNoTable(t, named("LeftHalf", m), left, ok)
		}
		upper, ok := impl.UpperHalf(m)
		if isOfKindWanted(m, impl.KindHalf) && len(m)%2 == 0 {
			wantTable(t, named("UpperHalf", m), upper, ok, upperWanted(m))
			back, ok := impl.FromUpperHalf(upper)
			wantTable(t, named("FromUpperHalf", upper), back, ok, m)
		} else {
			wantNoTable(t, named("UpperHalf", m), upper, ok)
		}
	})
}

func TestKnownHalves(t *testing.T) {
	for text, want := range map[string][][]int{
		"+":                             {{}},
		"0+0/+-+/0+0":                   {{0}, {1}, {0}},
		"00+00/0+-+0/00+00/+0-0+/00+00": {{0, 0}, {0, 1}, {0, 0}, {1, 0}, {0, 0}},
		"00+00/+0-0+/00+00/0+-+0/00+00": {{0, 0}, {1, 0}, {0, 0}, {0, 1}, {0, 0}},
		"00+00/0+-+0/+-+-+/0+-+0/00+00": {{0, 0}, {0, 1}, {1, -1}, {0, 1}, {0, 0}},
	} {
		half, ok := impl.LeftHalf(parsed(t, text))
		wantTable(t, named("LeftHalf", text), half, ok, want)
		m, ok := impl.FromLeftHalf(want)
		wantTable(t, named("FromLeftHalf", want), m, ok, parsed(t, text))
	}
	for text, want := range map[string][][]int{
		"0+/+0":               {{0, 1}},
		"+0/0+":               {{1, 0}},
		"00+0/+000/000+/0+00": {{0, 0, 1, 0}, {1, 0, 0, 0}},
		"0+00/+-+0/0+-+/00+0": {{0, 1, 0, 0}, {1, -1, 1, 0}},
		"00000+/00+000/0000+0/0+0000/000+00/+00000": {{0, 0, 0, 0, 0, 1}, {0, 0, 1, 0, 0, 0}, {0, 0, 0, 0, 1, 0}},
	} {
		half, ok := impl.UpperHalf(parsed(t, text))
		wantTable(t, named("UpperHalf", text), half, ok, want)
		m, ok := impl.FromUpperHalf(want)
		wantTable(t, named("FromUpperHalf", want), m, ok, parsed(t, text))
	}
}

func TestFromLeftHalfAmongAllTables(t *testing.T) {
	known := byLeftHalf()
	for _, c := range []struct{ rows, columns, most, count int }{
		{1, 0, 0, 1}, {3, 1, 3, 1}, {5, 2, 1, 3},
		{0, 0, 0, 0}, {1, 1, 3, 0}, {1, 2, 2, 0}, {2, 0, 0, 0}, {2, 1, 2, 0}, {2, 2, 2, 0}, {3, 0, 0, 0}, {3, 2, 1, 0}, {4, 0, 0, 0}, {4, 1, 2, 0}, {4, 2, 1, 0},
		{5, 0, 0, 0}, {5, 1, 2, 0}, {6, 0, 0, 0}, {6, 1, 1, 0}, {7, 0, 0, 0}, {7, 1, 1, 0},
	} {
		wantHalvesAmong(t, fromLeft(), c.rows, c.columns, c.most, c.count, known)
	}
}

func TestFromLeftHalfBesideHalves(t *testing.T) {
	known := byLeftHalf()
	wantBesideHalves(t, fromLeft(), known, leftWanted)
	for _, m := range known {
		other := copyTable(m)
		for i, row := range m {
			other[i] = row[len(m)/2+1:]
		}
		wantFromHalf(t, fromLeft(), other, known)
		for columns := range len(m) + 1 {
			wantFromHalf(t, fromLeft(), firstColumns(m, columns), known)
		}
	}
}

func firstColumns(m [][]int, columns int) [][]int {
	table := copyTable(m)
	for i, row := range table {
		table[i] = row[:columns]
	}
	return table
}

// wideMirrored is a matrix of seven rows that is its own mirror image.
func wideMirrored() [][]int {
	return [][]int{
		{0, 0, 0, 1, 0, 0, 0},
		{0, 0, 1, -1, 1, 0, 0},
		{0, 0, 0, 1, 0, 0, 0},
		{0, 1, 0, -1, 0, 1, 0},
		{0, 0, 0, 1, 0, 0, 0},
		{1, 0, 0, -1, 0, 0, 1},
		{0, 0, 0, 1, 0, 0, 0},
	}
}

// wantNoHalves checks tables that no matrix has as a half, and those that are no sign matrices, as a few of these are halves.
func wantNoHalves(t *testing.T, c tableCall, list [][][]int, known map[string][][]int) {
	t.Helper()
	for _, rows := range list {
		m, ok := c.call(rows)
		wantNoTable(t, c.name+" of "+short(rows), m, ok)
	}
	for _, rows := range notSigns() {
		wantFromHalf(t, c, rows, known)
	}
}

func TestFromLeftHalfFails(t *testing.T) {
	wantNoHalves(t, fromLeft(), [][][]int{
		leftWanted(wideMirrored()),
		{{math.MaxInt}, {2}, {math.MinInt}},
		{{math.MinInt}, {1}, {math.MinInt}},
		{{0}, {math.MinInt + 1}, {math.MinInt}},
		{{0, 0}, {math.MinInt, math.MinInt + 1}, {0, 0}, {math.MinInt, math.MinInt}, {0, 0}},
		{{0, 0}, {math.MinInt, 1}, {0, 0}, {math.MinInt + 1, 0}, {0, 0}},
		make([][]int, 100000),
		{make([]int, 100000)},
		cut(make([]int, 12), 6, 2),
		cut(make([]int, 18), 6, 3),
		cut(make([]int, 10), 5, 2),
	}, byLeftHalf())
}

func TestFromUpperHalfAmongAllTables(t *testing.T) {
	known := byUpperHalf()
	for _, c := range []struct{ rows, columns, most, count int }{
		{1, 2, 3, 2}, {2, 4, 2, 10},
		{0, 0, 0, 0}, {1, 0, 0, 0}, {1, 1, 2, 0}, {1, 3, 2, 0}, {1, 4, 2, 0}, {1, 6, 1, 0}, {2, 0, 0, 0}, {2, 1, 2, 0}, {2, 2, 2, 0}, {2, 3, 2, 0}, {2, 5, 1, 0}, {3, 0, 0, 0}, {3, 1, 2, 0}, {3, 2, 1, 0}, {4, 0, 0, 0},
	} {
		wantHalvesAmong(t, fromUpper(), c.rows, c.columns, c.most, c.count, known)
	}
}

// TestFromUpperHalfAmongAllRows tries all triples of rows whose signs alternate.
func TestFromUpperHalfAmongAllRows(t *testing.T) {
	known := byUpperHalf()
	rows := signRows(impl.MaxSide)
	count := 0
	tuples(impl.MaxSide/2, len(rows)-1, func(chosen []int) {
		half := [][]int{rows[chosen[0]], rows[chosen[1]], rows[chosen[2]]}
		count += oneIf(wantFromHalf(t, fromUpper(), half, known))
	})
	wantNumber(t, "upper halves of three rows", count, true, 140)
}

func TestFromUpperHalfBesideHalves(t *testing.T) {
	known := byUpperHalf()
	wantBesideHalves(t, fromUpper(), known, upperWanted)
	upToSide(t, func(t *testing.T, m [][]int) {
		if isOfKindWanted(m, impl.KindHalf) {
			for rows := range len(m) + 1 {
				wantFromHalf(t, fromUpper(), m[:rows], known)
			}
		}
	})
}

func TestFromUpperHalfFails(t *testing.T) {
	wantNoHalves(t, fromUpper(), [][][]int{
		identity(8)[:4],
		identity(100)[:50],
		{{math.MaxInt, math.MinInt + 2}},
		{{math.MinInt, math.MinInt}},
		{{math.MinInt, math.MinInt + 1}},
		{{math.MinInt, math.MinInt, 0, 1}, {0, 0, 1, 0}},
		make([][]int, 100000),
		{make([]int, 100000)},
		cut(make([]int, 18), 3, 6),
	}, byUpperHalf())
}

func TestMiddleOf(t *testing.T) {
	upToSide(t, func(t *testing.T, m [][]int) {
		middle, ok := impl.MiddleOf(m)
		if !isOfKindWanted(m, impl.KindMirror) {
			wantNoRow(t, named("MiddleOf", m), middle, ok)
			return
		}
		wantRow(t, named("MiddleOf", m), middle, ok, columnOf(m, len(m)/2))
		wantRow(t, named("MiddleOf", m), middle, ok, []int{1, -1, 1, -1, 1}[:len(m)])
	})
}

func TestSymmetriesOfOneRow(t *testing.T) {
	one := identity(1)
	numbers, ok := impl.SymmetriesOf(one)
	wantRow(t, "SymmetriesOf", numbers, ok, []int{0, 1, 2, 3, 4, 5, 6, 7})
	for kind := range impl.Kinds {
		wantHasSymmetry(t, one, kind, true)
		list, ok := impl.ListSymmetric(1, kind)
		if !ok || !sameList(list, [][][]int{one}) {
			t.Errorf("ListSymmetric of 1, %d: %v, %t", kind, list, ok)
		}
		count, ok := impl.CountSymmetric(1, kind)
		wantNumber(t, named("CountSymmetric of 1,", kind), count, ok, 1)
	}
	orbit, ok := impl.OrbitOf(one)
	if !ok || !sameList(orbit, [][][]int{one}) {
		t.Error("OrbitOf", orbit, ok)
	}
	count, ok := impl.CountUpToAll(1)
	wantNumber(t, "CountUpToAll", count, ok, 1)
	left, ok := impl.LeftHalf(one)
	wantTable(t, "LeftHalf", left, ok, [][]int{{}})
	m, ok := impl.FromLeftHalf(left)
	wantTable(t, "FromLeftHalf", m, ok, one)
	m, ok = impl.FromLeftHalf([][]int{nil})
	wantTable(t, "FromLeftHalf of no numbers", m, ok, one)
	upper, ok := impl.UpperHalf(one)
	wantNoTable(t, "UpperHalf", upper, ok)
	m, ok = impl.FromUpperHalf(one)
	wantNoTable(t, "FromUpperHalf", m, ok)
	middle, ok := impl.MiddleOf(one)
	wantRow(t, "MiddleOf", middle, ok, []int{1})
}

func TestGivenExampleOfSymmetries(t *testing.T) {
	list, ok := impl.ListSymmetric(3, impl.KindMirror)
	if got := textsOf(list); got != textsOf([][][]int{parsed(t, "0+0/+-+/0+0")}) || !ok {
		t.Error("ListSymmetric", got, ok)
	}
	numbers, ok := impl.SymmetriesOf(list[0])
	wantNumber(t, "symmetries", len(numbers), ok, 8)
	for _, c := range []struct{ n, kind, want int }{{3, impl.KindHalf, 3}, {3, impl.KindTurned, 5}, {4, impl.KindHalf, 10}, {5, impl.KindMirror, 3}} {
		count, ok := impl.CountSymmetric(c.n, c.kind)
		wantNumber(t, fmt.Sprintf("CountSymmetric of %d, %d", c.n, c.kind), count, ok, c.want)
	}
}

func TestKindsAreConstants(t *testing.T) {
	kinds := []int{impl.KindHalf, impl.KindQuarter, impl.KindMirror, impl.KindTurned, impl.KindBoth, impl.Kinds}
	if !slices.Equal(kinds, []int{0, 1, 2, 3, 4, 5}) {
		t.Error("kinds", kinds)
	}
}

// symmetryCalls are the functions of chapter 9 that make a table or a list of a sign matrix.
func symmetryCalls() []tableCall {
	return []tableCall{
		{"SymmetriesOf", ofRow(impl.SymmetriesOf)},
		{"OrbitOf", func(m [][]int) ([][]int, bool) {
			orbit, ok := impl.OrbitOf(m)
			return slices.Concat(orbit...), ok
		}},
		{"LeftHalf", impl.LeftHalf},
		{"UpperHalf", impl.UpperHalf},
		{"MiddleOf", ofRow(impl.MiddleOf)},
	}
}

func TestChapter9RequiresSigns(t *testing.T) {
	wantSignsRequired(t, append(symmetryCalls(), tableCall{"OrbitOf", func(m [][]int) ([][]int, bool) {
		orbit, ok := impl.OrbitOf(m)
		return make([][]int, len(orbit)), ok
	}}))
	for _, m := range append(notSigns(), wideMirrored()) {
		for kind := range impl.Kinds {
			wantNoSymmetry(t, m, kind)
		}
		for _, kind := range anyNumbers()[2:] {
			wantNoSymmetry(t, m, kind)
		}
	}
	for _, c := range symmetryCalls() {
		got, ok := c.call(wideMirrored())
		wantNoTable(t, c.name, got, ok)
	}
}

// halvesOf lists matrices that have a half, and their halves.
func halvesOf() [][][]int {
	list := [][][]int{{nil}, {{}}, wideMirrored(), leftWanted(wideMirrored())}
	for _, m := range byLeftHalf() {
		list = append(list, m, leftWanted(m))
	}
	for _, m := range byUpperHalf() {
		list = append(list, m, upperWanted(m))
	}
	return list
}

func TestNoSymmetricMatrixIsChanged(t *testing.T) {
	for _, m := range append(argumentsOf(), halvesOf()...) {
		for _, c := range append(symmetryCalls(), fromLeft(), fromUpper()) {
			wantNewMemory(t, c, m)
		}
		argument := guarded(m)
		for kind := -1; kind <= impl.Kinds; kind++ {
			impl.HasSymmetry(argument, kind)
		}
		if !untouched(argument, m) {
			t.Fatalf("%v is changed", m)
		}
	}
}

func TestListedSymmetricMatricesAreNew(t *testing.T) {
	for n := 1; n <= mostListed; n++ {
		for kind := range impl.Kinds {
			what := fmt.Sprintf("ListSymmetric of %d, %d", n, kind)
			wantNewTables(t, what, func() ([][][]int, bool) { return impl.ListSymmetric(n, kind) }, ofKindWanted(n, kind))
		}
		for _, m := range signMatrices(min(n, 4)) {
			wantNewTables(t, named("OrbitOf", m), func() ([][][]int, bool) { return impl.OrbitOf(m) }, orbitOfWanted(m))
		}
	}
}

func TestRowsOfHalvesMayShareMemory(t *testing.T) {
	long := []int{0, 1, 0, 1, -1, 1, 0, 0}
	left, ok := impl.LeftHalf([][]int{long[:3], long[3:6], long[:3]})
	wantTable(t, "LeftHalf", left, ok, [][]int{{0}, {1}, {0}})
	m, ok := impl.FromLeftHalf([][]int{long[:1], long[1:2], long[:1]})
	wantTable(t, "FromLeftHalf", m, ok, parsed(t, "0+0/+-+/0+0"))
	if !rowsApart(left) || !rowsApart(m) {
		t.Error("rows share memory")
	}
	m, ok = impl.FromUpperHalf([][]int{long[:4], long[3:7]})
	wantNoTable(t, "FromUpperHalf", m, ok)
	m, ok = impl.FromUpperHalf([][]int{{0, 1, 0, 0}, long[3:7]})
	wantTable(t, "FromUpperHalf", m, ok, parsed(t, "0+00/+-+0/0+-+/00+0"))
	if !rowsApart(m) || !slices.Equal(long, []int{0, 1, 0, 1, -1, 1, 0, 0}) {
		t.Error("memory is shared or changed")
	}
}
