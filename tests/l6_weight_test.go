package tests

import (
	"fmt"
	"math"
	"math/big"
	"slices"
	"testing"

	"loop.example/g01123/impl"
)

// kindWanted adds up what stands before and above a place.
func kindWanted(m [][]int, i, j int) int {
	switch m[i][j] {
	case 1:
		return 4
	case -1:
		return 5
	}
	return 2*sumOfTable([][]int{m[i][:j]}) + sumOfTable([][]int{columnOf(m, j)[:i]})
}

func kindsWanted(m [][]int) [][]int {
	kinds := copyTable(m)
	for i, row := range kinds {
		for j := range row {
			row[j] = kindWanted(m, i, j)
		}
	}
	return kinds
}

// productOfPlaces multiplies what all places are worth, one by one; nothing has to be known of the power 0 of 0.
func productOfPlaces(m [][]int, worth []int) int {
	product := 1
	for _, row := range kindsWanted(m) {
		for _, kind := range row {
			product *= worth[kind]
		}
	}
	return product
}

// sumOver adds up a weight of all sign matrices of n rows.
func sumOver(n int, weight func(m [][]int) int) int {
	sum := 0
	for _, m := range signMatrices(n) {
		sum += weight(m)
	}
	return sum
}

func powerWanted(base, exponent int) int {
	product := 1
	for range exponent {
		product *= base
	}
	return product
}

func pairWorth(a, b, c int) []int { return []int{a, b, b, a, 1, c} }

// tuples calls visit for all lists of a size with numbers in 0..greatest.
func tuples(size, greatest int, visit func(list []int)) {
	eachList(size, 0, greatest, func(list []int) bool {
		visit(list)
		return true
	})
}

// numbersBeside lists numbers that are not in low..high, those next to it among them.
func numbersBeside(low, high int) []int {
	return []int{low - 1, low - 2, high + 1, high + 2, 1<<32 + low, 1<<32 + high, math.MaxInt, math.MinInt, math.MinInt + high}
}

func wantNoNumber(t *testing.T, what string, got int, ok bool) {
	t.Helper()
	if got != 0 || ok {
		t.Errorf("%s: %d, %t instead of a failure", what, got, ok)
	}
}

func TestKindsAndSignsUndoEachOther(t *testing.T) {
	upToSide(t, func(t *testing.T, m [][]int) {
		want := kindsWanted(m)
		kinds, ok := impl.KindsOf(m)
		wantTable(t, named("KindsOf", m), kinds, ok, want)
		back, ok := impl.FromKinds(want)
		wantTable(t, named("FromKinds", want), back, ok, m)
	})
}

// signsByKinds has the sign matrices of n rows by the texts of their kinds.
func signsByKinds(n int) map[string][][]int {
	known := map[string][][]int{}
	for _, m := range signMatrices(n) {
		known[fmt.Sprint(kindsWanted(m))] = m
	}
	return known
}

// wantFromKinds checks a table that may have the kinds of a matrix, which only known tells.
func wantFromKinds(t *testing.T, kinds [][]int, known map[string][][]int) {
	t.Helper()
	got, ok := impl.FromKinds(kinds)
	if m, is := known[fmt.Sprint(kinds)]; is {
		wantTable(t, named("FromKinds", kinds), got, ok, m)
		return
	}
	wantNoTable(t, named("FromKinds", kinds), got, ok)
}

func TestFromKindsAmongAllTables(t *testing.T) {
	for n := 1; n <= 2; n++ {
		known := signsByKinds(n)
		tablesOf(n, -1, 6, func(kinds [][]int) { wantFromKinds(t, kinds, known) })
	}
}

// chosenKinds lists the kinds of all sign matrices of up to four rows, and of some with more.
func chosenKinds(n int) [][][]int {
	var kinds [][][]int
	stride := []int{0, 1, 1, 1, 1, 13, 257}[n]
	for k, m := range signMatrices(n) {
		if k%stride == 0 {
			kinds = append(kinds, kindsWanted(m))
		}
	}
	return kinds
}

func TestFromKindsBesideKinds(t *testing.T) {
	others := append(numbersBeside(0, 5), 0, 1, 2, 3, 4, 5)
	for n := 1; n <= impl.MaxSide; n++ {
		known := signsByKinds(n)
		for _, kinds := range chosenKinds(n) {
			for place := range n * n {
				right := kinds[place/n][place%n]
				for _, v := range others {
					kinds[place/n][place%n] = v
					wantFromKinds(t, kinds, known)
				}
				kinds[place/n][place%n] = right
			}
		}
	}
}

// TestFromKindsWithTwoOthers lets two places of three rows have any kinds.
func TestFromKindsWithTwoOthers(t *testing.T) {
	known := signsByKinds(3)
	for _, m := range signMatrices(3) {
		for p := range 9 {
			for q := range p {
				kinds := kindsWanted(m)
				tuples(2, 5, func(list []int) {
					kinds[p/3][p%3], kinds[q/3][q%3] = list[0], list[1]
					wantFromKinds(t, kinds, known)
				})
			}
		}
	}
}

// misshapen lists tables that differ from a square one in the number of rows, or in that of the numbers of a row.
func misshapen(square [][]int) [][][]int {
	n := len(square)
	list := [][][]int{square[:n-1], append(copyTable(square), square[0])}
	for i, row := range square {
		short, long, none := copyTable(square), copyTable(square), copyTable(square)
		short[i] = row[:n-1]
		long[i] = append(long[i], row[0])
		none[i] = nil
		list = append(list, short, long, none)
	}
	return list
}

// notKinds lists tables of kinds that are not square, or have too many rows.
func notKinds() [][][]int {
	list := notSquare()
	for n := 1; n <= impl.MaxSide; n++ {
		list = append(list, misshapen(kindsWanted(identity(n)))...)
		list = append(list, misshapen(kindsWanted(greatestWanted(n)))...)
	}
	return append(list, kindsWanted(identity(impl.MaxSide+1)), kindsWanted(greatestWanted(impl.MaxSide+1)), kindsWanted(identity(40)))
}

func TestFromKindsFails(t *testing.T) {
	for _, kinds := range append(notKinds(), [][]int{{0}}, [][]int{{5}}, [][]int{{1}}, identity(1), identity(3)) {
		got, ok := impl.FromKinds(kinds)
		wantNoTable(t, named("FromKinds", kinds), got, ok)
	}
}

func TestKindCounts(t *testing.T) {
	upToSide(t, func(t *testing.T, m [][]int) {
		want := make([]int, 6)
		for _, row := range kindsWanted(m) {
			for _, kind := range row {
				want[kind]++
			}
		}
		counts, ok := impl.KindCounts(m)
		wantRow(t, named("KindCounts", m), counts, ok, want)
		if counts[0] != counts[3] || counts[1] != counts[2] || counts[4] != len(m)+counts[5] {
			t.Fatalf("KindCounts of %v: %v", m, counts)
		}
		minus, _ := impl.MinusOnes(m)
		inversions, _ := impl.InversionsOf(m)
		wantNumber(t, named("inversions less minus ones", m), inversions-minus, true, counts[0])
		wantNumber(t, named("minus ones", m), minus, true, counts[5])
	})
}

func TestKnownKinds(t *testing.T) {
	for _, c := range []struct {
		signs  string
		kinds  [][]int
		counts []int
	}{
		{"+", [][]int{{4}}, []int{0, 0, 0, 0, 1, 0}},
		{"+0/0+", [][]int{{4, 2}, {1, 4}}, []int{0, 1, 1, 0, 2, 0}},
		{"0+/+0", [][]int{{0, 4}, {4, 3}}, []int{1, 0, 0, 1, 2, 0}},
		{"0+0/+-+/0+0", [][]int{{0, 4, 2}, {4, 5, 4}, {1, 4, 3}}, []int{1, 1, 1, 1, 4, 1}},
		{"0+0/00+/+00", [][]int{{0, 4, 2}, {0, 1, 4}, {4, 3, 3}}, []int{2, 1, 1, 2, 3, 0}},
		{"00+0/+000/0+-+/00+0", [][]int{{0, 0, 4, 2}, {4, 2, 3, 2}, {1, 4, 5, 4}, {1, 1, 4, 3}}, []int{2, 3, 3, 2, 5, 1}},
	} {
		m := parsed(t, c.signs)
		kinds, ok := impl.KindsOf(m)
		wantTable(t, "KindsOf of "+c.signs, kinds, ok, c.kinds)
		back, ok := impl.FromKinds(c.kinds)
		wantTable(t, "FromKinds of those of "+c.signs, back, ok, m)
		counts, ok := impl.KindCounts(m)
		wantRow(t, "KindCounts of "+c.signs, counts, ok, c.counts)
	}
}

func TestWeightOf(t *testing.T) {
	for n := 1; n <= impl.MaxWeighted; n++ {
		for _, m := range signMatrices(n) {
			tuples(3, 5, func(f []int) {
				got, ok := impl.WeightOf(m, f[0], f[1], f[2])
				wantNumber(t, fmt.Sprintf("WeightOf of %v, %v", m, f), got, ok, productOfPlaces(m, pairWorth(f[0], f[1], f[2])))
			})
		}
	}
}

func TestKnownWeights(t *testing.T) {
	for _, c := range []struct {
		signs         string
		a, b, c, want int
	}{
		{"+", 0, 0, 0, 1}, {"+", 5, 5, 5, 1},
		{"+0/0+", 2, 3, 5, 9}, {"0+/+0", 2, 3, 5, 4}, {"+0/0+", 0, 1, 0, 1}, {"+0/0+", 1, 0, 1, 0}, {"0+/+0", 1, 0, 0, 1},
		{"0+0/+-+/0+0", 2, 3, 5, 180}, {"0+0/+-+/0+0", 1, 1, 0, 0}, {"0+0/+-+/0+0", 1, 1, 4, 4}, {"0+0/+-+/0+0", 0, 1, 1, 0}, {"0+0/+-+/0+0", 1, 0, 1, 0},
		{"000+/00+0/0+00/+000", 5, 0, 0, 244140625}, {"+000/0+00/00+0/000+", 0, 5, 0, 244140625},
		{"0+00/+-+0/0+-+/00+0", 5, 5, 5, 9765625},
	} {
		got, ok := impl.WeightOf(parsed(t, c.signs), c.a, c.b, c.c)
		wantNumber(t, fmt.Sprintf("WeightOf of %s, %d, %d, %d", c.signs, c.a, c.b, c.c), got, ok, c.want)
	}
}

func TestWeightOfFewRowsOnly(t *testing.T) {
	for n := impl.MaxWeighted + 1; n <= impl.MaxSide; n++ {
		for _, m := range signMatrices(n) {
			for _, v := range []int{0, 1, 5} {
				got, ok := impl.WeightOf(m, v, v, v)
				wantNoNumber(t, named("WeightOf", m), got, ok)
			}
		}
	}
}

func TestWeightSum(t *testing.T) {
	for n := 1; n <= impl.MaxWeighted; n++ {
		tuples(3, 5, func(f []int) {
			want := sumOver(n, func(m [][]int) int { return productOfPlaces(m, pairWorth(f[0], f[1], f[2])) })
			got, ok := impl.WeightSum(n, f[0], f[1], f[2])
			wantNumber(t, fmt.Sprintf("WeightSum of %d, %v", n, f), got, ok, want)
		})
	}
}

func TestKnownWeightSums(t *testing.T) {
	for c, want := range [][]int{0: {1, 2, 6, 24}, 1: {1, 2, 7, 42}, 2: {1, 2, 8, 64}, 3: {1, 2, 9, 90}} {
		for k := range want {
			got, ok := impl.WeightSum(k+1, 1, 1, c)
			wantNumber(t, fmt.Sprintf("WeightSum of %d, 1, 1, %d", k+1, c), got, ok, want[k])
		}
	}
}

// TestWeightSumsArePowers takes a factor of the kind 5 that is the sum of the squares of the two others.
func TestWeightSumsArePowers(t *testing.T) {
	for _, f := range [][]int{{0, 0, 0}, {0, 1, 1}, {1, 0, 1}, {1, 1, 2}, {0, 2, 4}, {2, 0, 4}, {1, 2, 5}, {2, 1, 5}} {
		for n := 1; n <= impl.MaxWeighted; n++ {
			got, ok := impl.WeightSum(n, f[0], f[1], f[2])
			wantNumber(t, fmt.Sprintf("WeightSum of %d, %v", n, f), got, ok, powerWanted(f[2], n*(n-1)/2))
		}
	}
}

func TestFreeSum(t *testing.T) {
	for n := 1; n <= impl.MaxWeighted; n++ {
		tuples(2, 5, func(f []int) {
			x, y := f[0], f[1]
			want := sumOver(n, func(m [][]int) int { return productOfPlaces(m, []int{x, y, 1, 1, 1, x + y}) })
			got, ok := impl.FreeSum(n, x, y)
			wantNumber(t, fmt.Sprintf("FreeSum of %d, %d, %d", n, x, y), got, ok, want)
			wantNumber(t, fmt.Sprintf("FreeSum of %d, %d, %d as a power", n, x, y), got, ok, powerWanted(x+y, n*(n-1)/2))
		})
	}
}

func TestMinusAndInversionTables(t *testing.T) {
	for n := 1; n <= impl.MaxWeighted; n++ {
		minus := make([]int, []int{0, 1, 1, 2, 3}[n])
		inversions := make([]int, n*(n-1)/2+1)
		for _, m := range signMatrices(n) {
			minus[minusScore(m)]++
			inversions[inversionScore(m)]++
		}
		byMinus, ok := impl.MinusTable(n)
		wantRow(t, named("MinusTable", n), byMinus, ok, minus)
		wantAllShared(t, named("MinusTable", n), byMinus, ok, n)
		counts, ok := impl.CountByMinus(n)
		wantRow(t, named("CountByMinus", n), counts, ok, byMinus)
		byInversions, ok := impl.InversionTable(n)
		wantRow(t, named("InversionTable", n), byInversions, ok, inversions)
		wantAllShared(t, named("InversionTable", n), byInversions, ok, n)
		counts, ok = impl.CountByInversions(n)
		wantRow(t, named("CountByInversions", n), counts, ok, byInversions)
	}
}

func TestJointTable(t *testing.T) {
	for n := 1; n <= impl.MaxWeighted; n++ {
		byMinus, _ := impl.MinusTable(n)
		byInversions, _ := impl.InversionTable(n)
		var want [][]int
		for p := range n*(n-1)/2 + 1 {
			var row []int
			for k := range byMinus {
				row = append(row, sumOver(n, func(m [][]int) int { return oneIf(inversionScore(m) == p && minusScore(m) == k) }))
			}
			want = append(want, row)
		}
		table, ok := impl.JointTable(n)
		wantTable(t, named("JointTable", n), table, ok, want)
		for p, row := range table {
			wantNumber(t, fmt.Sprintf("row %d of JointTable of %d", p, n), sumOfTable([][]int{row}), ok, byInversions[p])
		}
		for k, count := range byMinus {
			wantNumber(t, fmt.Sprintf("column %d of JointTable of %d", k, n), sumOfTable([][]int{columnOf(table, k)}), ok, count)
		}
	}
}

func TestKnownTables(t *testing.T) {
	for _, c := range []struct {
		n                 int
		minus, inversions []int
		joint             [][]int
	}{
		{1, []int{1}, []int{1}, [][]int{{1}}},
		{2, []int{2}, []int{1, 1}, [][]int{{1}, {1}}},
		{3, []int{6, 1}, []int{1, 2, 3, 1}, [][]int{{1, 0}, {2, 0}, {2, 1}, {1, 0}}},
		{4, []int{24, 16, 2}, []int{1, 3, 7, 13, 11, 6, 1}, [][]int{{1, 0, 0}, {3, 0, 0}, {5, 2, 0}, {6, 6, 1}, {5, 6, 0}, {3, 2, 1}, {1, 0, 0}}},
	} {
		minus, ok := impl.MinusTable(c.n)
		wantRow(t, named("MinusTable", c.n), minus, ok, c.minus)
		inversions, ok := impl.InversionTable(c.n)
		wantRow(t, named("InversionTable", c.n), inversions, ok, c.inversions)
		joint, ok := impl.JointTable(c.n)
		wantTable(t, named("JointTable", c.n), joint, ok, c.joint)
	}
}

func TestSizesOfChapter6AreLimited(t *testing.T) {
	if impl.MaxWeighted != 4 {
		t.Error("MaxWeighted", impl.MaxWeighted)
	}
	for _, n := range append(sizesBeside(impl.MaxWeighted), impl.MaxSide, impl.MaxSide+1) {
		for _, v := range []int{0, 1, 5} {
			got, ok := impl.WeightSum(n, v, v, v)
			wantNoNumber(t, named("WeightSum", n), got, ok)
			got, ok = impl.FreeSum(n, v, v)
			wantNoNumber(t, named("FreeSum", n), got, ok)
		}
		minus, ok := impl.MinusTable(n)
		wantNoRow(t, named("MinusTable", n), minus, ok)
		inversions, ok := impl.InversionTable(n)
		wantNoRow(t, named("InversionTable", n), inversions, ok)
		joint, ok := impl.JointTable(n)
		wantNoTable(t, named("JointTable", n), joint, ok)
	}
}

func TestFactorsAreLimited(t *testing.T) {
	for n := 1; n <= impl.MaxWeighted; n++ {
		for _, m := range [][][]int{identity(n), greatestWanted(n)} {
			for _, wrong := range numbersBeside(0, 5) {
				for place := range 3 {
					for _, v := range []int{0, 1, 5, wrong} {
						f := []int{v, v, v}
						f[place] = wrong
						what := fmt.Sprintf("%d rows with %v", n, f)
						got, ok := impl.WeightOf(m, f[0], f[1], f[2])
						wantNoNumber(t, "WeightOf of "+what, got, ok)
						got, ok = impl.WeightSum(n, f[0], f[1], f[2])
						wantNoNumber(t, "WeightSum of "+what, got, ok)
						if place < 2 {
							got, ok = impl.FreeSum(n, f[0], f[1])
							wantNoNumber(t, "FreeSum of "+what, got, ok)
						}
					}
				}
			}
		}
	}
}

// filled is a table of n rows with one number all over.
func filled(n, v int) [][]int {
	t := make([][]int, n)
	for i := range t {
		t[i] = slices.Repeat([]int{v}, n)
	}
	return t
}

// mixedTable has numbers in 1..4 in a rough order.
func mixedTable(n, seed int) [][]int {
	t := filled(n, 1)
	for place := range n * n {
		seed = (seed*445 + 7*place + 11) % 4099
		t[place/n][place%n] = 1 + seed/7%4
	}
	return t
}

// someTables calls check for all tables of one and two rows and for chosen ones of three and four.
func someTables(check func(table [][]int)) {
	for n := 1; n <= 2; n++ {
		tablesOf(n, 1, 4, check)
	}
	for n := 3; n <= impl.MaxWeighted; n++ {
		for v := 1; v <= 4; v++ {
			check(filled(n, v))
		}
		for seed := range []int{3: 400, 4: 150}[n] {
			check(mixedTable(n, seed))
		}
		for place := range n * n {
			for _, v := range [][2]int{{4, 1}, {1, 4}, {3, 4}, {2, 3}} {
				table := filled(n, v[0])
				table[place/n][place%n] = v[1]
				check(table)
			}
		}
	}
}

func powerOfTable(m, table [][]int) *big.Rat {
	product := big.NewRat(1, 1)
	for i, row := range m {
		for j, v := range row {
			switch v {
			case 1:
				product.Mul(product, big.NewRat(int64(table[i][j]), 1))
			case -1:
				product.Mul(product, big.NewRat(1, int64(table[i][j])))
			}
		}
	}
	return product
}

// lambdaWanted adds up what the listed matrices, all with as many rows as the table, weigh.
func lambdaWanted(list [][][]int, table [][]int, lambda int) *big.Rat {
	sum := new(big.Rat)
	for _, m := range list {
		weight := big.NewRat(int64(productOfPlaces(m, []int{lambda, 1, 1, 1, 1, 1 + lambda})), 1)
		sum.Add(sum, weight.Mul(weight, powerOfTable(m, table)))
	}
	return sum
}

// ratioOf tells a ratio, as big ones have no common divisor and a Denom of at least 1.
func ratioOf(r *big.Rat) impl.Ratio {
	return impl.Ratio{Num: int(r.Num().Int64()), Den: int(r.Denom().Int64())}
}

func wantRatio(t *testing.T, what string, got impl.Ratio, ok bool, want impl.Ratio) {
	t.Helper()
	if !ok || got != want {
		t.Fatalf("%s: %v, %t instead of %v", what, got, ok, want)
	}
}

func wantNoRatio(t *testing.T, what string, got impl.Ratio, ok bool) {
	t.Helper()
	if ok || got != (impl.Ratio{}) {
		t.Errorf("%s: %v, %t instead of a failure", what, got, ok)
	}
}

func wantNoRatios(t *testing.T, what string, got [][]impl.Ratio, ok bool) {
	t.Helper()
	if ok || len(got) != 0 {
		t.Errorf("%s: %v, %t instead of a failure", what, got, ok)
	}
}

// listsUpTo has the lists of sign matrices of 0..greatest rows, so that they need not be made for each table.
func listsUpTo(greatest int) [][][][]int {
	lists := [][][][]int{nil}
	for n := 1; n <= greatest; n++ {
		lists = append(lists, signMatrices(n))
	}
	return lists
}

func TestPowerOf(t *testing.T) {
	lists := listsUpTo(impl.MaxWeighted)
	someTables(func(table [][]int) {
		for _, m := range lists[len(table)] {
			got, ok := impl.PowerOf(m, table)
			wantRatio(t, fmt.Sprintf("PowerOf of %v, %v", m, table), got, ok, ratioOf(powerOfTable(m, table)))
		}
	})
}

func TestKnownPowers(t *testing.T) {
	bow := parsed(t, "0+0/+-+/0+0")
	for _, c := range []struct {
		m, table [][]int
		want     impl.Ratio
	}{
		{identity(1), [][]int{{3}}, impl.Ratio{Num: 3, Den: 1}},
		{greatestWanted(2), [][]int{{1, 2}, {3, 4}}, impl.Ratio{Num: 6, Den: 1}},
		{bow, [][]int{{1, 1, 1}, {1, 4, 1}, {1, 1, 1}}, impl.Ratio{Num: 1, Den: 4}},
		{bow, [][]int{{4, 2, 4}, {1, 4, 1}, {4, 1, 4}}, impl.Ratio{Num: 1, Den: 2}},
		{bow, [][]int{{4, 2, 4}, {3, 4, 1}, {4, 1, 4}}, impl.Ratio{Num: 3, Den: 2}},
		{bow, [][]int{{1, 2, 1}, {2, 4, 1}, {1, 1, 1}}, impl.Ratio{Num: 1, Den: 1}},
		{bow, filled(3, 4), impl.Ratio{Num: 64, Den: 1}},
		{parsed(t, "0+00/+-+0/0+-+/00+0"), [][]int{{4, 1, 4, 4}, {1, 4, 1, 4}, {4, 1, 3, 1}, {4, 4, 1, 4}}, impl.Ratio{Num: 1, Den: 12}},
	} {
		got, ok := impl.PowerOf(c.m, c.table)
		wantRatio(t, fmt.Sprintf("PowerOf of %v, %v", c.m, c.table), got, ok, c.want)
	}
}

func TestPowersNeedAsManyRows(t *testing.T) {
	for n := 1; n <= impl.MaxSide; n++ {
		for side := 1; side <= impl.MaxSide; side++ {
			got, ok := impl.PowerOf(identity(n), filled(side, 2))
			if n == side && n <= impl.MaxWeighted {
				wantRatio(t, named("PowerOf", n), got, ok, impl.Ratio{Num: powerWanted(2, n), Den: 1})
				continue
			}
			wantNoRatio(t, fmt.Sprintf("PowerOf of %d and %d rows", n, side), got, ok)
		}
	}
}

func TestLambdaSumIsCondense(t *testing.T) {
	lists := listsUpTo(impl.MaxWeighted)
	someTables(func(table [][]int) {
		for lambda := range 4 {
			what := fmt.Sprintf("of %v, %d", table, lambda)
			want := ratioOf(lambdaWanted(lists[len(table)], table, lambda))
			sum, ok := impl.LambdaSum(table, lambda)
			wantRatio(t, "LambdaSum "+what, sum, ok, want)
			left, ok := impl.Condense(table, lambda)
			wantRatio(t, "Condense "+what, left, ok, want)
		}
	})
}

// part returns the square of a table with some rows that begins at a place.
func part(table [][]int, i, j, rows int) [][]int {
	var square [][]int
	for _, row := range table[i : i+rows] {
		square = append(square, row[j:j+rows])
	}
	return square
}

// TestCondenseSteps knows the number of each later table as the sum for the square that has been condensed to it.
func TestCondenseSteps(t *testing.T) {
	lists := listsUpTo(impl.MaxWeighted)
	someTables(func(table [][]int) {
		n := len(table)
		for lambda := range 4 {
			var want [][]impl.Ratio
			for rows := 1; rows <= n; rows++ {
				var numbers []impl.Ratio
				for place := range (n - rows + 1) * (n - rows + 1) {
					square := part(table, place/(n-rows+1), place%(n-rows+1), rows)
					numbers = append(numbers, ratioOf(lambdaWanted(lists[rows], square, lambda)))
				}
				want = append(want, numbers)
			}
			steps, ok := impl.CondenseSteps(table, lambda)
			if !ok || !slices.EqualFunc(steps, want, slices.Equal[[]impl.Ratio]) {
				t.Fatalf("CondenseSteps of %v, %d: %v, %t instead of %v", table, lambda, steps, ok, want)
			}
			left, ok := impl.Condense(table, lambda)
			wantRatio(t, named("Condense", table), left, ok, steps[n-1][0])
		}
	})
}

func wholes(numbers ...int) []impl.Ratio {
	var list []impl.Ratio
	for _, v := range numbers {
		list = append(list, impl.Ratio{Num: v, Den: 1})
	}
	return list
}

func TestKnownSteps(t *testing.T) {
	for _, c := range []struct {
		table  [][]int
		lambda int
		steps  [][]impl.Ratio
	}{
		{[][]int{{3}}, 2, [][]impl.Ratio{wholes(3)}},
		{[][]int{{3}}, 0, [][]impl.Ratio{wholes(3)}},
		{[][]int{{1, 2}, {3, 4}}, 2, [][]impl.Ratio{wholes(1, 2, 3, 4), wholes(16)}},
		{[][]int{{1, 2}, {3, 4}}, 0, [][]impl.Ratio{wholes(1, 2, 3, 4), wholes(4)}},
		{filled(3, 1), 1, [][]impl.Ratio{wholes(1, 1, 1, 1, 1, 1, 1, 1, 1), wholes(2, 2, 2, 2), wholes(8)}},
		{[][]int{{1, 1, 1}, {1, 4, 1}, {1, 1, 1}}, 0, [][]impl.Ratio{wholes(1, 1, 1, 1, 4, 1, 1, 1, 1), wholes(4, 1, 1, 4), wholes(4)}},
		{[][]int{{1, 1, 1}, {1, 4, 1}, {1, 1, 1}}, 1, [][]impl.Ratio{wholes(1, 1, 1, 1, 4, 1, 1, 1, 1), wholes(5, 5, 5, 5), {{Num: 25, Den: 2}}}},
		{[][]int{{1, 2, 1}, {1, 4, 1}, {1, 1, 1}}, 0, [][]impl.Ratio{wholes(1, 2, 1, 1, 4, 1, 1, 1, 1), wholes(4, 2, 1, 4), wholes(4)}},
		{[][]int{{1, 2, 1}, {3, 4, 1}, {1, 1, 1}}, 3, [][]impl.Ratio{wholes(1, 2, 1, 3, 4, 1, 1, 1, 1), wholes(22, 14, 15, 7), wholes(196)}},
	} {
		steps, ok := impl.CondenseSteps(c.table, c.lambda)
		if !ok || !slices.EqualFunc(steps, c.steps, slices.Equal[[]impl.Ratio]) {
			t.Errorf("CondenseSteps of %v, %d: %v, %t instead of %v", c.table, c.lambda, steps, ok, c.steps)
		}
	}
}

// TestCondensedOnes knows the sums for tables of ones from those of weights.
func TestCondensedOnes(t *testing.T) {
	for n := 1; n <= impl.MaxWeighted; n++ {
		for lambda := range 4 {
			left, ok := impl.Condense(filled(n, 1), lambda)
			wantRatio(t, fmt.Sprintf("Condense of %d rows of ones, %d", n, lambda), left, ok, wholes(powerWanted(1+lambda, n*(n-1)/2))[0])
		}
	}
}

// notTables lists tables that are not square, have no or too many rows, or have a number out of 1..4.
func notTables() [][][]int {
	list := notSquare()
	for n := 1; n <= impl.MaxWeighted; n++ {
		for place := range n * n {
			for _, v := range numbersBeside(1, 4) {
				table := filled(n, 1+place%4)
				table[place/n][place%n] = v
				list = append(list, table)
			}
		}
		list = append(list, misshapen(filled(n, 2))...)
		list = append(list, filled(n, 0), filled(n, 5), filled(n, -1))
	}
	for n := impl.MaxWeighted + 1; n <= impl.MaxSide+1; n++ {
		list = append(list, filled(n, 1), filled(n, 4))
	}
	return append(list, filled(100, 1), make([][]int, 100000))
}

func TestTablesAreRequired(t *testing.T) {
	for _, table := range notTables() {
		what := named("", table[:min(len(table), 8)])
		for n := 1; n <= impl.MaxSide; n++ {
			got, ok := impl.PowerOf(identity(n), table)
			wantNoRatio(t, "PowerOf"+what, got, ok)
		}
		for lambda := -1; lambda <= 4; lambda++ {
			got, ok := impl.LambdaSum(table, lambda)
			wantNoRatio(t, "LambdaSum"+what, got, ok)
			got, ok = impl.Condense(table, lambda)
			wantNoRatio(t, "Condense"+what, got, ok)
			steps, ok := impl.CondenseSteps(table, lambda)
			wantNoRatios(t, "CondenseSteps"+what, steps, ok)
		}
	}
}

func TestLambdasAreLimited(t *testing.T) {
	for n := 1; n <= impl.MaxWeighted; n++ {
		for _, lambda := range numbersBeside(0, 3) {
			table := filled(n, 2)
			got, ok := impl.LambdaSum(table, lambda)
			wantNoRatio(t, named("LambdaSum", lambda), got, ok)
			got, ok = impl.Condense(table, lambda)
			wantNoRatio(t, named("Condense", lambda), got, ok)
			steps, ok := impl.CondenseSteps(table, lambda)
			wantNoRatios(t, named("CondenseSteps", lambda), steps, ok)
		}
	}
}

func TestRowSets(t *testing.T) {
	upToSide(t, func(t *testing.T, m [][]int) {
		sets, ok := impl.RowSets(m)
		wantTable(t, named("RowSets", m), sets, ok, triangleWanted(m))
	})
}

// stepWanted tells of each number of a row set whether it is left, right or free, and multiplies what that is worth.
func stepWanted(set, next []int, t int) int {
	product := 1
	for i, v := range set {
		switch v {
		case next[i]:
			product *= t
		case next[i+1]:
		default:
			product *= 1 + t
		}
	}
	return product
}

func setWeightWanted(m [][]int, x []int, t int) int {
	product := 1
	sets := triangleWanted(m)
	before := 0
	for k, set := range sets {
		sum := sumOfTable([][]int{set})
		product *= powerWanted(x[k], sum-before)
		before = sum
		if k+1 < len(sets) {
			product *= stepWanted(set, sets[k+1], t)
		}
	}
	return product
}

// listsOfNumbers calls visit for all lists of 1..MaxWeighted numbers in 0..4 with all t; those of four numbers are chosen.
func listsOfNumbers(visit func(x []int, t int)) {
	for n := 1; n <= impl.MaxWeighted; n++ {
		for t := range 5 {
			tuples(n, 4, func(x []int) {
				if n < 4 || (x[0]+2*x[1]+3*x[2]+4*x[3]+t)%5 == 0 {
					visit(x, t)
				}
			})
		}
	}
}

func TestSetWeight(t *testing.T) {
	lists := listsUpTo(impl.MaxWeighted)
	listsOfNumbers(func(x []int, by int) {
		for _, m := range lists[len(x)] {
			got, ok := impl.SetWeight(m, x, by)
			wantNumber(t, fmt.Sprintf("SetWeight of %v, %v, %d", m, x, by), got, ok, setWeightWanted(m, x, by))
		}
	})
}

func TestKnownSetWeights(t *testing.T) {
	for _, c := range []struct {
		signs string
		x     []int
		t     int
		want  int
	}{
		{"+", []int{3}, 4, 1}, {"+", []int{0}, 0, 1},
		{"+0/0+", []int{2, 3}, 4, 12}, {"0+/+0", []int{2, 3}, 4, 2}, {"+0/0+", []int{0, 3}, 1, 3}, {"+0/0+", []int{3, 0}, 1, 0}, {"0+/+0", []int{3, 0}, 1, 3}, {"0+/+0", []int{3, 0}, 0, 3},
		// The number 1 is free, and then 0 is left and 2 is right.
		{"0+0/+-+/0+0", []int{2, 3, 4}, 2, 144}, {"0+0/+-+/0+0", []int{2, 3, 4}, 0, 0}, {"0+0/+-+/0+0", []int{1, 1, 1}, 1, 2}, {"0+0/+-+/0+0", []int{1, 1, 1}, 4, 20},
		{"000+/00+0/0+00/+000", []int{4, 4, 4, 0}, 0, 4096}, {"+000/0+00/00+0/000+", []int{0, 4, 4, 4}, 4, 16777216},
	} {
		got, ok := impl.SetWeight(parsed(t, c.signs), c.x, c.t)
		wantNumber(t, fmt.Sprintf("SetWeight of %s, %v, %d", c.signs, c.x, c.t), got, ok, c.want)
	}
}

func TestSetSum(t *testing.T) {
	for n := 1; n <= impl.MaxWeighted; n++ {
		for by := range 5 {
			tuples(n, 4, func(x []int) {
				want := 1
				for j := range x {
					for i := range j {
						want *= x[i] + by*x[j]
					}
				}
				got, ok := impl.SetSum(x, by)
				wantNumber(t, fmt.Sprintf("SetSum of %v, %d", x, by), got, ok, want)
			})
		}
	}
}

func TestSetSumIsASum(t *testing.T) {
	lists := listsUpTo(impl.MaxWeighted)
	listsOfNumbers(func(x []int, by int) {
		want := 0
		for _, m := range lists[len(x)] {
			weight, _ := impl.SetWeight(m, x, by)
			want += weight
		}
		got, ok := impl.SetSum(x, by)
		wantNumber(t, fmt.Sprintf("SetSum of %v, %d", x, by), got, ok, want)
	})
}

// notLists lists numbers that no function takes for a list x.
func notLists() [][]int {
	list := [][]int{nil, {}, {1, 1, 1, 1, 1}, {0, 0, 0, 0, 0}, {1, 2, 3, 4, 0, 1}, make([]int, 100000)}
	for n := 1; n <= impl.MaxWeighted; n++ {
		for place := range n {
			for _, v := range numbersBeside(0, 4) {
				x := slices.Repeat([]int{1}, n)
				x[place] = v
				list = append(list, x)
			}
		}
	}
	return list
}

func wantNoSetWeights(t *testing.T, x []int, by int) {
	t.Helper()
	what := fmt.Sprintf("of %v, %d", x[:min(len(x), 8)], by)
	got, ok := impl.SetSum(x, by)
	wantNoNumber(t, "SetSum "+what, got, ok)
	for n := 1; n <= impl.MaxSide; n++ {
		for _, m := range [][][]int{identity(n), greatestWanted(n)} {
			got, ok := impl.SetWeight(m, x, by)
			wantNoNumber(t, "SetWeight "+what, got, ok)
		}
	}
}

func TestListsAreRequired(t *testing.T) {
	for _, x := range notLists() {
		for by := -1; by <= 5; by++ {
			wantNoSetWeights(t, x, by)
		}
	}
	for n := 1; n <= impl.MaxWeighted; n++ {
		for _, by := range numbersBeside(0, 4) {
			wantNoSetWeights(t, slices.Repeat([]int{1}, n), by)
		}
	}
}

func TestListsNeedAsManyNumbers(t *testing.T) {
	for n := 1; n <= impl.MaxSide; n++ {
		for size := range impl.MaxSide + 2 {
			x := slices.Repeat([]int{2}, size)
			got, ok := impl.SetWeight(greatestWanted(n), x, 1)
			if n == size && n <= impl.MaxWeighted {
				wantNumber(t, named("SetWeight", n), got, ok, setWeightWanted(greatestWanted(n), x, 1))
				continue
			}
			wantNoNumber(t, fmt.Sprintf("SetWeight of %d rows and %d numbers", n, size), got, ok)
		}
	}
}

func TestWeightsOfOneRow(t *testing.T) {
	one := identity(1)
	for _, c := range []struct {
		name string
		call func() (int, bool)
	}{
		{"WeightOf", func() (int, bool) { return impl.WeightOf(one, 0, 0, 0) }},
		{"WeightSum", func() (int, bool) { return impl.WeightSum(1, 0, 0, 0) }},
		{"FreeSum", func() (int, bool) { return impl.FreeSum(1, 0, 0) }},
		{"SetWeight", func() (int, bool) { return impl.SetWeight(one, []int{0}, 0) }},
		{"SetSum", func() (int, bool) { return impl.SetSum([]int{0}, 0) }},
	} {
		got, ok := c.call()
		wantNumber(t, c.name+" of one row", got, ok, 1)
	}
	sets, ok := impl.RowSets(one)
	wantTable(t, "RowSets of one row", sets, ok, [][]int{{0}})
	power, ok := impl.PowerOf(one, [][]int{{4}})
	wantRatio(t, "PowerOf of one row", power, ok, wholes(4)[0])
}

func TestGivenExampleOfWeights(t *testing.T) {
	m := parsed(t, "0+0/+-+/0+0")
	counts, ok := impl.KindCounts(m)
	wantRow(t, "KindCounts", counts, ok, []int{1, 1, 1, 1, 4, 1})
	sets, ok := impl.RowSets(m)
	wantTable(t, "RowSets", sets, ok, [][]int{{1}, {0, 2}, {0, 1, 2}})
	free, ok := impl.FreeSum(3, 1, 1)
	wantNumber(t, "FreeSum", free, ok, 8)
	sum, ok := impl.LambdaSum([][]int{{1, 2}, {3, 4}}, 2)
	wantRatio(t, "LambdaSum", sum, ok, wholes(16)[0])
}

// kindCalls are the functions of chapter 6 that make a table or a list of a table of numbers.
func kindCalls() []tableCall {
	return []tableCall{
		{"KindsOf", impl.KindsOf},
		{"KindCounts", ofRow(impl.KindCounts)},
		{"RowSets", impl.RowSets},
	}
}

func TestChapter6RequiresSigns(t *testing.T) {
	wantSignsRequired(t, kindCalls())
	for _, m := range notSigns() {
		got, ok := impl.WeightOf(m, 1, 1, 1)
		wantNoNumber(t, named("WeightOf", m), got, ok)
		for n := 1; n <= impl.MaxWeighted; n++ {
			got, ok = impl.SetWeight(m, slices.Repeat([]int{1}, n), 1)
			wantNoNumber(t, named("SetWeight", m), got, ok)
			power, ok := impl.PowerOf(m, filled(n, 1))
			wantNoRatio(t, named("PowerOf", m), power, ok)
		}
	}
}

func TestNoArgumentOfKindsIsChanged(t *testing.T) {
	wantNewMemoryOfSigns(t, kindCalls())
	list := notKinds()
	for n := 1; n <= impl.MaxSide; n++ {
		list = append(list, chosenKinds(n)...)
	}
	for _, kinds := range list {
		wantNewMemory(t, tableCall{"FromKinds", impl.FromKinds}, kinds)
	}
}

func TestNoWeighedMatrixIsChanged(t *testing.T) {
	for _, m := range argumentsOf() {
		argument := guarded(m)
		x := guardedRow([]int{1, 2, 3, 4}[:min(len(m), 4)])
		table := guarded(filled(min(len(m), 4), 3))
		impl.WeightOf(argument, 2, 3, 4)
		impl.WeightOf(argument, -1, 3, 4)
		impl.SetWeight(argument, x, 2)
		impl.SetWeight(argument, x, 5)
		impl.PowerOf(argument, table)
		if !untouched(argument, m) || !rowUntouched(x, []int{1, 2, 3, 4}[:len(x)]) || !untouched(table, filled(len(table), 3)) {
			t.Fatalf("arguments with %v are changed", m)
		}
	}
}

func TestNoListIsChanged(t *testing.T) {
	lists := notLists()
	listsOfNumbers(func(x []int, by int) { lists = append(lists, slices.Clone(x)) })
	for _, x := range lists {
		argument := guardedRow(x)
		impl.SetSum(argument, 3)
		impl.SetWeight(identity(max(1, min(len(x), 4))), argument, 3)
		if !rowUntouched(argument, x) {
			t.Fatalf("%v is changed", x)
		}
	}
}

// ratiosApart overwrites the lists of a result, each with its own ratio, and reports whether they kept these.
func ratiosApart(lists [][]impl.Ratio) bool {
	for k, list := range lists {
		list = list[:cap(list)]
		for i := range list {
			list[i] = impl.Ratio{Num: k, Den: -1}
		}
	}
	for k, list := range lists {
		for _, r := range list[:cap(list)] {
			if r != (impl.Ratio{Num: k, Den: -1}) {
				return false
			}
		}
	}
	return true
}

func TestNoTableIsChanged(t *testing.T) {
	tables := notTables()
	someTables(func(table [][]int) { tables = append(tables, copyTable(table)) })
	for _, table := range tables {
		argument := guarded(table)
		for _, lambda := range []int{0, 3, 4} {
			impl.LambdaSum(argument, lambda)
			impl.Condense(argument, lambda)
			impl.PowerOf(identity(max(1, min(len(table), 4))), argument)
			steps, ok := impl.CondenseSteps(argument, lambda)
			before := fmt.Sprint(steps)
			if !ratiosApart(steps) || !untouched(argument, table) {
				t.Fatalf("CondenseSteps of %v, %d, shares or changes memory", table, lambda)
			}
			again, fine := impl.CondenseSteps(argument, lambda)
			if fmt.Sprint(again) != before || ok != fine {
				t.Fatalf("CondenseSteps of %v, %d, again: %v instead of %s", table, lambda, again, before)
			}
		}
	}
}

func TestTablesOfCountsAreNew(t *testing.T) {
	for n := 1; n <= impl.MaxWeighted; n++ {
		for name, call := range map[string]func(n int) ([][]int, bool){
			"JointTable":     impl.JointTable,
			"MinusTable":     ofCounts(impl.MinusTable),
			"InversionTable": ofCounts(impl.InversionTable),
		} {
			wantNewRows(t, named(name, n), func() ([][]int, bool) { return call(n) })
		}
	}
}

func TestRowsOfATableMayShareMemory(t *testing.T) {
	row := []int{1, 2, 3, 4}
	table := [][]int{row[:2], row[1:3]}
	got, ok := impl.Condense(table, 1)
	wantRatio(t, named("Condense", table), got, ok, wholes(7)[0])
	if !slices.Equal(row, []int{1, 2, 3, 4}) {
		t.Error("numbers are changed")
	}
}
