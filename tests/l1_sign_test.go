package tests

import (
	"math"
	"slices"
	"strings"
	"testing"

	"loop.example/g01123/impl"
)

// tableCall is a function of chapter 1 that makes a table of a sign matrix.
type tableCall struct {
	name string
	call func(m [][]int) ([][]int, bool)
}

func tableCalls() []tableCall {
	one := [][]int{{1}}
	return []tableCall{
		{"CornerSums", impl.CornerSums},
		{"TurnMatrix", impl.TurnMatrix},
		{"MirrorMatrix", impl.MirrorMatrix},
		{"TransposeMatrix", impl.TransposeMatrix},
		{"LeastOfTurns", impl.LeastOfTurns},
		{"StackMatrices above", func(m [][]int) ([][]int, bool) { return impl.StackMatrices(m, one) }},
		{"StackMatrices below", func(m [][]int) ([][]int, bool) { return impl.StackMatrices(one, m) }},
		{"StackMatrices twice", func(m [][]int) ([][]int, bool) { return impl.StackMatrices(m, m) }},
	}
}

func numberCalls() map[string]func(m [][]int) (int, bool) {
	return map[string]func(m [][]int) (int, bool){
		"MinusOnes":    impl.MinusOnes,
		"InversionsOf": impl.InversionsOf,
		"FirstColumn":  impl.FirstColumn,
	}
}

// wantSignsRequired checks that calls fail with what is no sign matrix.
func wantSignsRequired(t *testing.T, calls []tableCall) {
	t.Helper()
	for _, m := range notSigns() {
		for _, c := range calls {
			got, ok := c.call(m)
			wantNoTable(t, named(c.name, m), got, ok)
		}
	}
}

// upToSide calls check for all sign matrices of 1..MaxSide rows.
func upToSide(t *testing.T, check func(t *testing.T, m [][]int)) {
	t.Helper()
	for n := 1; n <= impl.MaxSide; n++ {
		for _, m := range signMatrices(n) {
			check(t, m)
		}
	}
}

func TestIsSignMatrixAmongAllTables(t *testing.T) {
	for n := 1; n <= 3; n++ {
		tablesOf(n, -1, 1, func(m [][]int) {
			if got, want := impl.IsSignMatrix(m), areSigns(m); got != want {
				t.Fatalf("IsSignMatrix of %v: %t", m, got)
			}
		})
	}
	tablesOf(2, -3, 3, func(m [][]int) {
		want := sameTable(m, [][]int{{1, 0}, {0, 1}}) || sameTable(m, [][]int{{0, 1}, {1, 0}})
		if got := impl.IsSignMatrix(m); got != want {
			t.Fatalf("IsSignMatrix of %v: %t", m, got)
		}
	})
}

func TestIsSignMatrixOfAllSigns(t *testing.T) {
	upToSide(t, func(t *testing.T, m [][]int) {
		if !impl.IsSignMatrix(m) {
			t.Fatalf("IsSignMatrix of %v: false", m)
		}
	})
}

func TestIsSignMatrixBesideSigns(t *testing.T) {
	for n := 1; n <= 4; n++ {
		for _, m := range signMatrices(n) {
			for place := range n * n {
				changed := copyTable(m)
				for v := -2; v <= 2; v++ {
					changed[place/n][place%n] = v
					if got := impl.IsSignMatrix(changed); got != (v == m[place/n][place%n]) {
						t.Fatalf("IsSignMatrix of %v: %t", changed, got)
					}
				}
			}
		}
	}
}

func TestSignMatricesAreRequired(t *testing.T) {
	wantSignsRequired(t, tableCalls())
	for _, m := range notSigns() {
		if impl.IsSignMatrix(m) {
			t.Errorf("IsSignMatrix of %v: true", m)
		}
		for name, call := range numberCalls() {
			if got, ok := call(m); got != 0 || ok {
				t.Errorf("%s of %v: %d, %t", name, m, got, ok)
			}
		}
		if is, ok := impl.IsPlacing(m); is || ok {
			t.Errorf("IsPlacing of %v: %t, %t", m, is, ok)
		}
		if s, ok := impl.SignText(m); s != "" || ok {
			t.Errorf("SignText of %v: %q, %t", m, s, ok)
		}
	}
}

func TestIsPlacing(t *testing.T) {
	upToSide(t, func(t *testing.T, m [][]int) {
		want := true
		for _, row := range m {
			want = want && !slices.Contains(row, -1)
		}
		if is, ok := impl.IsPlacing(m); is != want || !ok {
			t.Fatalf("IsPlacing of %v: %t, %t", m, is, ok)
		}
	})
}

// placings calls visit for all lists of n columns, each once.
func placings(n int, visit func(p []int)) {
	var grow func(p []int)
	grow = func(p []int) {
		if len(p) == n {
			visit(p)
			return
		}
		for j := range n {
			if !slices.Contains(p, j) {
				grow(append(slices.Clone(p), j))
			}
		}
	}
	grow(nil)
}

func TestFromPlacing(t *testing.T) {
	for n := 1; n <= impl.MaxSide; n++ {
		placings(n, func(p []int) {
			want := make([][]int, n)
			for i := range want {
				want[i] = make([]int, n)
				want[i][p[i]] = 1
			}
			argument := guardedRow(p)
			got, ok := impl.FromPlacing(argument)
			wantTable(t, named("FromPlacing", p), got, ok, want)
			if !rowsApart(got) || !rowUntouched(argument, p) {
				t.Fatalf("FromPlacing of %v shares or changes memory", p)
			}
		})
	}
}

func TestFromPlacingFails(t *testing.T) {
	for _, p := range [][]int{
		nil, {}, {1}, {-1}, {0, 0}, {1, 1}, {0, 2}, {1, 2}, {-1, 0}, {0, 1, 1}, {2, 0, 2}, {0, 1, 3},
		{math.MaxInt}, {math.MinInt}, {0, math.MaxInt}, {math.MinInt, 0},
		{0, 1, 2, 3, 4, 4}, {1, 2, 3, 4, 5, 6}, {0, 1, 2, 3, 4, 5, 6}, {6, 5, 4, 3, 2, 1, 0}, make([]int, 1000),
	} {
		got, ok := impl.FromPlacing(p)
		wantNoTable(t, named("FromPlacing", p), got, ok)
	}
}

// sumUpTo adds up, as the document tells it, the numbers of rows up to i and columns up to j.
func sumUpTo(m [][]int, i, j int) int {
	sum := 0
	for a := 0; a <= i; a++ {
		for b := 0; b <= j; b++ {
			sum += m[a][b]
		}
	}
	return sum
}

func TestCornersAndSignsUndoEachOther(t *testing.T) {
	upToSide(t, func(t *testing.T, m [][]int) {
		want := copyTable(m)
		for i, row := range want {
			for j := range row {
				row[j] = sumUpTo(m, i, j)
			}
		}
		c, ok := impl.CornerSums(m)
		wantTable(t, named("CornerSums", m), c, ok, want)
		back, ok := impl.FromCorners(c)
		wantTable(t, named("FromCorners", c), back, ok, m)
		if !impl.AreCorners(c) {
			t.Fatalf("AreCorners of %v: false", c)
		}
	})
}

// stepsByOne reports whether a row or column of corner sums goes from 0 up to end by steps of 0 and 1.
func stepsByOne(line []int, end int) bool {
	last := 0
	for _, v := range line {
		if v != last && v != last+1 {
			return false
		}
		last = v
	}
	return last == end
}

// looksLikeCorners is another way than the program's to tell corner sums among square tables.
func looksLikeCorners(c [][]int) bool {
	for i := range c {
		if !stepsByOne(c[i], i+1) || !stepsByOne(columnOf(c, i), i+1) {
			return false
		}
	}
	return true
}

func wantCorners(t *testing.T, c [][]int, want bool) {
	t.Helper()
	if got := impl.AreCorners(c); got != want {
		t.Fatalf("AreCorners of %v: %t", c, got)
	}
	m, ok := impl.FromCorners(c)
	if !want {
		wantNoTable(t, named("FromCorners", c), m, ok)
		return
	}
	back, fine := impl.CornerSums(m)
	if !ok {
		t.Fatalf("FromCorners of %v fails", c)
	}
	wantTable(t, named("CornerSums", m), back, fine, c)
}

func TestAreCornersAmongAllTables(t *testing.T) {
	counts := []int{0, 0, 0, 0}
	for n := 1; n <= 3; n++ {
		tablesOf(n, 0, 3, func(c [][]int) {
			want := looksLikeCorners(c)
			wantCorners(t, c, want)
			if want {
				counts[n]++
			}
		})
	}
	if !slices.Equal(counts, []int{0, 1, 2, 7}) {
		t.Errorf("corner sums found: %v", counts)
	}
}

func TestAreCornersBesideCorners(t *testing.T) {
	for n := 1; n <= 4; n++ {
		for _, m := range signMatrices(n) {
			for place := range n * n {
				c, _ := impl.CornerSums(m)
				for _, step := range []int{-1, 2} {
					c[place/n][place%n] += step
					wantCorners(t, c, looksLikeCorners(c))
				}
			}
		}
	}
}

func TestAreCornersFails(t *testing.T) {
	list := append(notSquare(), [][][]int{
		{{0}}, {{-1}}, {{2}}, {{math.MaxInt}}, {{math.MinInt}},
		{{0, 1}, {1, 1}}, {{0, 1}, {1, 3}}, {{2, 1}, {1, 2}}, {{-1, 1}, {1, 2}}, {{1, 2}, {1, 2}},
		{{math.MinInt, 1}, {1, 2}}, {{0, 1}, {1, math.MinInt + 2}}, {{math.MaxInt, math.MaxInt}, {math.MaxInt, math.MaxInt}},
		{{1, 0, 0}, {0, 1, 0}, {0, 0, 1}},
	}...)
	for _, c := range list {
		wantCorners(t, c, false)
	}
}

func TestMinusOnesAndFirstColumn(t *testing.T) {
	upToSide(t, func(t *testing.T, m [][]int) {
		minus := 0
		for _, row := range m {
			for _, v := range row {
				if v < 0 {
					minus++
				}
			}
		}
		got, ok := impl.MinusOnes(m)
		wantNumber(t, named("MinusOnes", m), got, ok, minus)
		column, ok := impl.FirstColumn(m)
		if !ok || column < 0 || column >= len(m) || m[0][column] != 1 {
			t.Fatalf("FirstColumn of %v: %d, %t", m, column, ok)
		}
	})
}

func TestInversionsOf(t *testing.T) {
	upToSide(t, func(t *testing.T, m [][]int) {
		n := len(m)
		want := 0
		for first := range n * n {
			for second := range n * n {
				if second/n > first/n && second%n < first%n {
					want += m[first/n][first%n] * m[second/n][second%n]
				}
			}
		}
		got, ok := impl.InversionsOf(m)
		wantNumber(t, named("InversionsOf", m), got, ok, want)
	})
}

func TestInversionsOfKnownMatrices(t *testing.T) {
	for text, want := range map[string]int{
		"+": 0, "+0/0+": 0, "0+/+0": 1, "0+0/+-+/0+0": 2, "00+/0+0/+00": 3, "0+0/00+/+00": 2,
		"00000+/0000+0/000+00/00+000/0+0000/+00000": 15,
	} {
		m, _ := impl.ParseSigns(text)
		got, ok := impl.InversionsOf(m)
		wantNumber(t, "InversionsOf "+text, got, ok, want)
	}
}

// placed makes a table of m with the number of the row i and the column j at the place that to tells.
func placed(m [][]int, to func(i, j, last int) (int, int)) [][]int {
	out := copyTable(m)
	for i, row := range m {
		for j, v := range row {
			a, b := to(i, j, len(m)-1)
			out[a][b] = v
		}
	}
	return out
}

// eightWays tells where turns and mirrors carry the place i, j: those of TurnMatrix, MirrorMatrix and TransposeMatrix first.
func eightWays() []func(i, j, last int) (int, int) {
	return []func(i, j, last int) (int, int){
		func(i, j, last int) (int, int) { return j, last - i },
		func(i, j, last int) (int, int) { return i, last - j },
		func(i, j, last int) (int, int) { return j, i },
		func(i, j, last int) (int, int) { return i, j },
		func(i, j, last int) (int, int) { return last - i, last - j },
		func(i, j, last int) (int, int) { return last - j, i },
		func(i, j, last int) (int, int) { return last - i, j },
		func(i, j, last int) (int, int) { return last - j, last - i },
	}
}

func TestTurnsAndMirrorsMovePlaces(t *testing.T) {
	ways := eightWays()
	upToSide(t, func(t *testing.T, m [][]int) {
		turned, ok := impl.TurnMatrix(m)
		wantTable(t, named("TurnMatrix", m), turned, ok, placed(m, ways[0]))
		mirrored, ok := impl.MirrorMatrix(m)
		wantTable(t, named("MirrorMatrix", m), mirrored, ok, placed(m, ways[1]))
		transposed, ok := impl.TransposeMatrix(m)
		wantTable(t, named("TransposeMatrix", m), transposed, ok, placed(m, ways[2]))
	})
}

// through applies calls one after the other, the first letter first: t for a turn, m for a mirror, x for an exchange of rows and columns.
func through(m [][]int, letters string) [][]int {
	for _, letter := range letters {
		switch letter {
		case 't':
			m, _ = impl.TurnMatrix(m)
		case 'm':
			m, _ = impl.MirrorMatrix(m)
		case 'x':
			m, _ = impl.TransposeMatrix(m)
		}
	}
	return m
}

func TestTurnsAndMirrorsAreAGroup(t *testing.T) {
	upToSide(t, func(t *testing.T, m [][]int) {
		for _, same := range [][2]string{{"tttt", ""}, {"mm", ""}, {"xx", ""}, {"tmtm", ""}, {"tm", "x"}, {"mt", "ttx"}} {
			wantTable(t, named(same[0]+" and "+same[1], m), through(m, same[0]), true, through(m, same[1]))
		}
	})
}

func TestTurnMatrixIsClockwise(t *testing.T) {
	m, _ := impl.ParseSigns("0+0/00+/+00")
	for letters, want := range map[string]string{"t": "+00/00+/0+0", "m": "0+0/+00/00+", "x": "00+/+00/0+0"} {
		if got, ok := impl.SignText(through(m, letters)); got != want || !ok {
			t.Errorf("%s: %s, %t instead of %s", letters, got, ok, want)
		}
	}
}

func TestLeastOfTurns(t *testing.T) {
	upToSide(t, func(t *testing.T, m [][]int) {
		want := m
		for _, way := range eightWays() {
			if image := placed(m, way); compareTables(image, want) < 0 {
				want = image
			}
		}
		got, ok := impl.LeastOfTurns(m)
		wantTable(t, named("LeastOfTurns", m), got, ok, want)
	})
}

func TestStackMatrices(t *testing.T) {
	for n := 1; n < impl.MaxSide; n++ {
		for _, m := range signMatrices(n) {
			for size := 1; size <= min(impl.MaxSide-n, 3); size++ {
				for _, k := range signMatrices(size) {
					want := identity(n + size)
					for i := range want {
						fillWhole(want[i], 0)
					}
					for i := range m {
						copy(want[i], m[i])
					}
					for i := range k {
						copy(want[n+i][n:], k[i])
					}
					got, ok := impl.StackMatrices(m, k)
					wantTable(t, "StackMatrices", got, ok, want)
				}
			}
		}
	}
}

func TestStackMatricesFails(t *testing.T) {
	good := identity(1)
	for _, bad := range notSigns() {
		got, ok := impl.StackMatrices(good, bad)
		wantNoTable(t, named("StackMatrices below", bad), got, ok)
		got, ok = impl.StackMatrices(bad, good)
		wantNoTable(t, named("StackMatrices above", bad), got, ok)
	}
	for n := 1; n <= impl.MaxSide; n++ {
		for size := 1; size <= impl.MaxSide; size++ {
			got, ok := impl.StackMatrices(identity(n), identity(size))
			if n+size <= impl.MaxSide {
				wantTable(t, "StackMatrices", got, ok, identity(n+size))
			} else {
				wantNoTable(t, "StackMatrices of too many rows", got, ok)
			}
		}
	}
}

func TestCountSigns(t *testing.T) {
	for k, want := range []int{1, 2, 7, 42, 429, 7436, 218348, 10850216} {
		got, ok := impl.CountSigns(k + 1)
		wantNumber(t, named("CountSigns", k+1), got, ok, want)
		if k < impl.MaxSide {
			wantNumber(t, "matrices listed", len(signMatrices(k+1)), true, got)
		}
	}
	for _, n := range []int{0, -1, 9, 10, 100, math.MaxInt, math.MinInt} {
		if got, ok := impl.CountSigns(n); got != 0 || ok {
			t.Errorf("CountSigns of %d: %d, %t", n, got, ok)
		}
	}
}

func TestSignTexts(t *testing.T) {
	letters := map[int]string{0: "0", 1: "+", -1: "-"}
	upToSide(t, func(t *testing.T, m [][]int) {
		var rows []string
		for _, row := range m {
			text := ""
			for _, v := range row {
				text += letters[v]
			}
			rows = append(rows, text)
		}
		want := strings.Join(rows, "/")
		if got, ok := impl.SignText(m); got != want || !ok {
			t.Fatalf("SignText of %v: %q, %t", m, got, ok)
		}
		back, ok := impl.ParseSigns(want)
		wantTable(t, "ParseSigns "+want, back, ok, m)
	})
}

func TestParseSignsFails(t *testing.T) {
	for _, s := range []string{
		"", "/", "//", "0", "-", "1", " ", "+/", "/+", "+ ", " +", "+\n", "\n+", "+\x00", "++", "+0", "+/+",
		"+0/0+/", "/+0/0+", "+0//0+", "+0/0+\n", "+0/0", "+0/0+0", "+0/", "+0 /0+", "+0|0+", "+0\n0+", "+0,0+", "+00+",
		"10/01", "+o/o+", "+O/O+", "+0/0*", "\uff0b0/0\uff0b", "0+0/+\u22121+/0+0", "0+0/+\u2212+/0+0",
		"00/00", "++/00", "+0/+0", "-+/+0", "0+0/+0+/0+0", "0+0/+-+/0+-", "+00/-++/+00", "00+/++-/00+",
		"+000000/0+00000/00+0000/000+000/0000+00/00000+0/000000+",
		"+00000/0+0000/00+000/000+00/0000+0/00000+/", "+00000/0+0000/00+000/000+00/0000+0/00000+/00000+",
		strings.Repeat("/", 100000), strings.Repeat("+", 100000), strings.Repeat("+/", 100000), "+0/" + strings.Repeat("0", 100000),
	} {
		got, ok := impl.ParseSigns(s)
		wantNoTable(t, named("ParseSigns", s[:min(len(s), 60)]), got, ok)
	}
}

func TestParseSignsOfBytes(t *testing.T) {
	for value := range 256 {
		s := "+0/0" + string([]byte{byte(value)})
		m, ok := impl.ParseSigns(s)
		if value == '+' {
			wantTable(t, named("ParseSigns", s), m, ok, identity(2))
		} else {
			wantNoTable(t, named("ParseSigns", s), m, ok)
		}
	}
}

func TestGivenExample(t *testing.T) {
	m, ok := impl.ParseSigns("0+0/+-+/0+0")
	wantTable(t, "ParseSigns", m, ok, [][]int{{0, 1, 0}, {1, -1, 1}, {0, 1, 0}})
	c, ok := impl.CornerSums(m)
	wantTable(t, "CornerSums", c, ok, [][]int{{0, 1, 1}, {1, 1, 2}, {1, 2, 3}})
	minus, ok := impl.MinusOnes(m)
	wantNumber(t, "MinusOnes", minus, ok, 1)
	inversions, ok := impl.InversionsOf(m)
	wantNumber(t, "InversionsOf", inversions, ok, 2)
	column, ok := impl.FirstColumn(m)
	wantNumber(t, "FirstColumn", column, ok, 1)
	count, ok := impl.CountSigns(3)
	wantNumber(t, "CountSigns", count, ok, 7)
}

func TestMatrixOfOneRow(t *testing.T) {
	one := identity(1)
	for _, c := range tableCalls() {
		got, ok := c.call(one)
		want := one
		if strings.HasPrefix(c.name, "StackMatrices") {
			want = identity(2)
		}
		wantTable(t, c.name, got, ok, want)
	}
	for name, call := range numberCalls() {
		got, ok := call(one)
		wantNumber(t, name, got, ok, 0)
	}
	if is, ok := impl.IsPlacing(one); !is || !ok {
		t.Error("IsPlacing of one row", is, ok)
	}
	if s, ok := impl.SignText(one); s != "+" || !ok {
		t.Error("SignText of one row", s, ok)
	}
}

// argumentsOf lists valid and invalid matrices of several sizes.
func argumentsOf() [][][]int {
	list := notSigns()
	for n := 1; n <= 4; n++ {
		list = append(list, signMatrices(n)...)
	}
	return append(list, identity(5), identity(6))
}

func TestNoMatrixIsChanged(t *testing.T) {
	calls := append(tableCalls(), tableCall{"FromCorners", impl.FromCorners})
	for _, m := range argumentsOf() {
		argument := guarded(m)
		for _, c := range calls {
			got, ok := c.call(argument)
			if !rowsApart(got) || !untouched(argument, m) {
				t.Fatalf("%s of %v, %t, shares or changes memory", c.name, m, ok)
			}
			again, _ := c.call(argument)
			fresh, _ := c.call(copyTable(m))
			wantTable(t, named(c.name, m), again, true, fresh)
		}
		for _, call := range numberCalls() {
			call(argument)
		}
		impl.IsSignMatrix(argument)
		impl.AreCorners(argument)
		impl.IsPlacing(argument)
		impl.SignText(argument)
		if !untouched(argument, m) {
			t.Fatalf("%v is changed", m)
		}
	}
}

func TestNoCornersAreChanged(t *testing.T) {
	for n := 1; n <= 4; n++ {
		for _, m := range signMatrices(n) {
			c, _ := impl.CornerSums(m)
			argument := guarded(c)
			got, ok := impl.FromCorners(argument)
			if !ok || !impl.AreCorners(argument) || !rowsApart(got) || !untouched(argument, c) {
				t.Fatalf("FromCorners of %v, %t, shares or changes memory", c, ok)
			}
		}
	}
}

func TestParsedMatricesAreNew(t *testing.T) {
	first, _ := impl.ParseSigns("0+0/+-+/0+0")
	if !rowsApart(first) {
		t.Error("rows of a parsed matrix share memory")
	}
	second, ok := impl.ParseSigns("0+0/+-+/0+0")
	wantTable(t, "ParseSigns again", second, ok, [][]int{{0, 1, 0}, {1, -1, 1}, {0, 1, 0}})
}

func TestRowsOfAnArgumentMayShareMemory(t *testing.T) {
	whole := []int{0, 1, 0, 1, -1, 1}
	m := [][]int{whole[:3], whole[3:], whole[:3]}
	turned, ok := impl.TurnMatrix(m)
	wantTable(t, "TurnMatrix", turned, ok, m)
	stacked, ok := impl.StackMatrices(m, m)
	if !ok || !rowsApart(stacked) || !slices.Equal(whole, []int{0, 1, 0, 1, -1, 1}) {
		t.Error("StackMatrices shares memory with its arguments")
	}
}
