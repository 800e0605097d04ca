package tests

import (
	"fmt"
	"math"
	"slices"
	"strings"
	"testing"

	"loop.example/g01123/impl"
)

// greatestOfAll is the greatest n that the document knows.
const greatestOfAll = 6

func notRising(row []int) bool {
	return slices.IsSortedFunc(row, func(v, w int) int { return w - v })
}

// standsUnder compares each part of a row with that over it, one place farther to the right.
func standsUnder(row, above []int) bool {
	if len(row) >= len(above) || row[0] > len(above) {
		return false
	}
	for i, v := range row {
		if v >= above[i+1] {
			return false
		}
	}
	return true
}

// descends is another way than the program's to tell a descending plane partition.
func descends(rows [][]int, n int) bool {
	for k, row := range rows {
		if len(row) == 0 || slices.Min(row) < 1 || slices.Max(row) > n || !notRising(row) || row[0] <= len(row) {
			return false
		}
		if k > 0 && !standsUnder(row, rows[k-1]) {
			return false
		}
	}
	return true
}

// descendingRows lists all rows that are a descending plane partition for n alone, in order.
func descendingRows(n int) [][]int {
	var rows [][]int
	for size := range n + 1 {
		eachList(size, 1, n, func(row []int) bool {
			if descends([][]int{row}, n) {
				rows = append(rows, slices.Clone(row))
			}
			return true
		})
	}
	slices.SortFunc(rows, slices.Compare[[]int])
	return rows
}

// descending lists all descending plane partitions for n without the program's help, in order.
func descending(n int) [][][]int {
	rows := descendingRows(n)
	list := [][][]int{nil}
	for _, row := range rows {
		list = append(list, [][]int{row})
	}
	for k := 1; k < len(list); k++ {
		last := list[k][len(list[k])-1]
		for _, row := range rows {
			if standsUnder(row, last) {
				list = append(list, append(slices.Clone(list[k]), row))
			}
		}
	}
	slices.SortFunc(list, compareTables)
	return list
}

// notDescending lists rows that are no descending plane partition for 6, nor for less.
func notDescending() [][][]int {
	return [][][]int{
		{nil}, {{}}, {{}, {}}, {{3, 3}, {}}, {{}, {2}}, {{3, 3}, nil, {2}}, {{3, 3}, {2}, {}},
		{{1}}, {{0}}, {{-1}}, {{7}}, {{9}}, {{math.MaxInt}}, {{math.MinInt}}, {{1<<32 + 2}},
		{{3, 0}}, {{3, -1}}, {{3, 7}}, {{3, math.MinInt}}, {{3, math.MaxInt}}, {{7, 1}}, {{7, 7}}, {{3, 2, 0}}, {{4, 2, 0}}, {{4, 2, -2}},
		{{3, 4}}, {{4, 1, 2}}, {{4, 2, 3}}, {{5, 4, 3, 4}}, {{5, 6}}, {{2, 3}},
		{{1, 1}}, {{2, 1}}, {{2, 2}}, {{3, 1, 1}}, {{3, 3, 3}}, {{4, 4, 4, 4}}, {{5, 1, 1, 1, 1}}, {{6, 1, 1, 1, 1, 1}}, {{6, 6, 6, 6, 6, 6}}, {{7, 6, 6, 6, 6, 6}},
		{{2}, {1}}, {{3}, {2}}, {{6}, {2}}, {{6}, {6}}, {{3, 2}, {1}}, {{3, 3}, {1}},
		{{3, 3}, {3}}, {{4, 4}, {3}}, {{5, 5, 5}, {4}}, {{6, 6, 6}, {4, 1}}, {{6, 6, 6, 6}, {5}},
		{{3, 2}, {2}}, {{4, 1}, {2}}, {{4, 3, 3}, {3}}, {{6, 6, 2}, {3, 2}}, {{6, 6, 1}, {3, 1}}, {{6, 6, 3}, {3, 3}},
		{{4, 4}, {2, 1}}, {{4, 4}, {3, 1}}, {{6, 6, 6}, {3, 2, 1}}, {{5, 5}, {2, 1, 1}},
		{{3, 3}, {2}, {2}}, {{3, 3}, {2}, {1}}, {{4, 4, 4}, {3, 3}, {3}}, {{4, 4, 4}, {3, 2}, {2}}, {{2}, {3, 3}}, {{2}, {2}},
		{{3, 3}, {2}, {7}}, {{4, 4, 4}, {3, 3}, {2}, {2}}, {{6, 6, 6, 6, 6}, {5, 5, 5, 5}, {4, 4, 4}, {3, 3}, {2}, {1}}, {{6, 6, 6, 6, 6}, {5, 5, 5, 5}, {4, 4, 4}, {3, 3}, {2}, {}},
		{slices.Repeat([]int{2}, 100000)}, slices.Repeat([][]int{{2}}, 100000), slices.Repeat([][]int{nil}, 100000), {slices.Repeat([]int{100001}, 100000)},
	}
}

// short keeps what is long out of a message.
func short(what any) string {
	text := fmt.Sprint(what)
	return text[:min(len(text), 80)]
}

func wantIsDescending(t *testing.T, rows [][]int, n int) bool {
	t.Helper()
	want := descends(rows, n)
	if got, ok := impl.IsDescending(rows, n); got != want || !ok {
		t.Fatalf("IsDescending of %s for %d: %t, %t instead of %t", short(rows), n, got, ok, want)
	}
	return want
}

func TestIsDescendingAmongAllRows(t *testing.T) {
	for size := range 6 {
		eachList(size, 0, 7, func(row []int) bool {
			for n := 1; n <= greatestOfAll; n++ {
				wantIsDescending(t, [][]int{row}, n)
			}
			return true
		})
	}
	eachList(6, 1, 6, func(row []int) bool { return wantIsDescending(t, [][]int{row}, greatestOfAll) })
}

func TestIsDescendingAmongAllSecondRows(t *testing.T) {
	for _, first := range descendingRows(greatestOfAll) {
		for size := range 5 {
			eachList(size, 0, 6, func(row []int) bool { return wantIsDescending(t, [][]int{first, row}, greatestOfAll) })
		}
	}
}

func TestIsDescendingAmongAllThirdRows(t *testing.T) {
	for _, rows := range descending(greatestOfAll) {
		if len(rows) != 2 {
			continue
		}
		for size := range 4 {
			eachList(size, 0, 4, func(row []int) bool {
				return wantIsDescending(t, [][]int{rows[0], rows[1], row}, greatestOfAll)
			})
		}
	}
}

func TestDescendingForEachN(t *testing.T) {
	list := descending(greatestOfAll)
	for n := 1; n <= greatestOfAll; n++ {
		count := 0
		for _, rows := range list {
			count += oneIf(wantIsDescending(t, rows, n))
		}
		want, ok := impl.CountSigns(n)
		wantNumber(t, named("partitions", n), count, ok, want)
	}
}

func TestIsDescendingWithAnotherPart(t *testing.T) {
	others := append(numbersBeside(1, 6), 1, 2, 3, 4, 5, 6)
	for k, rows := range descending(greatestOfAll) {
		if k%17 != 0 {
			continue
		}
		rows = copyTable(rows)
		for _, row := range rows {
			for i, right := range row {
				for _, v := range others {
					row[i] = v
					wantIsDescending(t, rows, greatestOfAll)
				}
				row[i] = right
			}
		}
	}
}

func TestIsDescendingOfOtherRows(t *testing.T) {
	for n := 1; n <= greatestOfAll; n++ {
		wantIsDescending(t, nil, n)
		wantIsDescending(t, [][]int{}, n)
		for _, rows := range notDescending() {
			if wantIsDescending(t, rows, n) {
				t.Errorf("%s is a partition for %d", short(rows), n)
			}
		}
	}
}

func TestIsDescendingFailsForOtherNs(t *testing.T) {
	for _, n := range sizesBeside(greatestOfAll) {
		for _, rows := range append(notDescending(), nil, [][]int{{2}}, [][]int{{7}}, [][]int{{3, 3}, {2}}) {
			if is, ok := impl.IsDescending(rows, n); is || ok {
				t.Errorf("IsDescending of %s for %d: %t, %t", short(rows), n, is, ok)
			}
		}
	}
}

func TestAllDescending(t *testing.T) {
	for n := 1; n <= impl.MaxGreatest; n++ {
		list, ok := impl.AllDescending(n)
		if want := descending(n); !ok || !sameList(list, want) {
			t.Errorf("AllDescending of %d: %v, %t instead of %v", n, list, ok, want)
		}
	}
	for _, n := range sizesBeside(impl.MaxGreatest) {
		if list, ok := impl.AllDescending(n); ok || list != nil {
			t.Errorf("AllDescending of %d: %v, %t", n, list, ok)
		}
	}
}

// textsOfAll lists the texts of partitions with spaces between them.
func textsOfAll(t *testing.T, list [][][]int) string {
	t.Helper()
	var texts []string
	for _, rows := range list {
		text, ok := impl.DescendingText(rows)
		if !ok {
			t.Fatalf("%v has no text", rows)
		}
		texts = append(texts, text)
	}
	return strings.Join(texts, " ")
}

func TestOrderOfDescending(t *testing.T) {
	for n, want := range []string{
		1: "-",
		2: "- 2",
		3: "- 2 3 31 32 33 33/2",
		4: "- 2 3 31 32 33 33/2 4 41 411 42 421 422 43 43/2 431 431/2 432 432/2 433 433/2 44 44/2 441 441/2 441/3 442 442/2 442/3 442/31 " +
			"443 443/2 443/3 443/31 443/32 444 444/2 444/3 444/31 444/32 444/33 444/33/2",
	} {
		list, _ := impl.AllDescending(n)
		if got := textsOfAll(t, list); got != want {
			t.Errorf("AllDescending of %d: %s instead of %s", n, got, want)
		}
	}
}

func TestCountsOfDescending(t *testing.T) {
	for n := 1; n <= greatestOfAll; n++ {
		want := len(descending(n))
		signs, ok := impl.CountSigns(n)
		wantNumber(t, named("CountSigns", n), signs, ok, want)
		got, ok := impl.CountByDeterminant(n)
		wantNumber(t, named("CountByDeterminant", n), got, ok, want)
		if n < greatestOfAll {
			got, ok = impl.CountDescending(n)
			wantNumber(t, named("CountDescending", n), got, ok, want)
		}
	}
	for _, n := range sizesBeside(5) {
		got, ok := impl.CountDescending(n)
		wantNoNumber(t, named("CountDescending", n), got, ok)
	}
	for _, n := range sizesBeside(greatestOfAll) {
		got, ok := impl.CountByDeterminant(n)
		wantNoNumber(t, named("CountByDeterminant", n), got, ok)
	}
}

// countParts tells how many parts have a property, which may depend on their index.
func countParts(rows [][]int, has func(i, v int) bool) int {
	count := 0
	for _, row := range rows {
		for i, v := range row {
			count += oneIf(has(i, v))
		}
	}
	return count
}

func allParts(rows [][]int) int {
	return countParts(rows, func(i, v int) bool { return true })
}

func specialParts(rows [][]int) int {
	return countParts(rows, func(i, v int) bool { return v <= i })
}

func equalParts(rows [][]int, n int) int {
	return countParts(rows, func(i, v int) bool { return v == n })
}

func TestNumbersOfDescending(t *testing.T) {
	for _, rows := range descending(greatestOfAll) {
		for name, c := range map[string]struct {
			call func(rows [][]int) (int, bool)
			want int
		}{
			"PartsOf":      {impl.PartsOf, allParts(rows)},
			"SpecialParts": {impl.SpecialParts, specialParts(rows)},
			"SumOfParts":   {impl.SumOfParts, sumOfTable(rows)},
		} {
			got, ok := c.call(rows)
			wantNumber(t, named(name, rows), got, ok, c.want)
		}
		for n := 2; n <= greatestOfAll; n++ {
			got, ok := impl.PartsEqual(rows, n)
			wantNumber(t, fmt.Sprintf("PartsEqual of %v, %d", rows, n), got, ok, equalParts(rows, n))
		}
	}
}

func TestPartsBesideTheirIndex(t *testing.T) {
	for _, c := range []struct {
		text string
		want int
	}{
		{"-", 0}, {"2", 0}, {"31", 1}, {"32", 0}, {"33/2", 0}, {"41", 1}, {"42", 0}, {"411", 2}, {"421", 1}, {"422", 1}, {"433", 0}, {"5433", 1}, {"5444", 0},
		{"65554", 1}, {"65555", 0}, {"61111", 4}, {"443/31", 1}, {"443/32", 0}, {"66666/5111", 3}, {"66666/5222", 2}, {"66666/5333/2", 1},
	} {
		rows, ok := impl.ParseDescending(c.text)
		if !ok {
			t.Fatalf("%s is no text", c.text)
		}
		got, ok := impl.SpecialParts(rows)
		wantNumber(t, "SpecialParts of "+c.text, got, ok, c.want)
	}
}

func TestPartsEqualFailsForOtherNs(t *testing.T) {
	for _, n := range append(sizesBeside(greatestOfAll), 1) {
		for _, rows := range [][][]int{nil, {{2}}, {{3, 1}}, {{6, 6, 1}, {3}}, {{1}}, {{7}}} {
			got, ok := impl.PartsEqual(rows, n)
			wantNoNumber(t, fmt.Sprintf("PartsEqual of %v, %d", rows, n), got, ok)
		}
	}
}

// spreadWanted counts the partitions for n by parts and special parts.
func spreadWanted(n int) [][]int {
	spread := make([][]int, n*(n-1)/2+1)
	for p := range spread {
		spread[p] = make([]int, (n-1)*(n-1)/4+1)
	}
	for _, rows := range descending(n) {
		spread[allParts(rows)][specialParts(rows)]++
	}
	return spread
}

func TestSpreadOfParts(t *testing.T) {
	for n := 1; n <= impl.MaxGreatest; n++ {
		want := spreadWanted(n)
		got, ok := impl.SpreadOfParts(n)
		wantTable(t, named("SpreadOfParts", n), got, ok, want)
		joint, ok := impl.JointTable(n)
		wantTable(t, named("JointTable", n), joint, ok, want)
	}
	for _, n := range sizesBeside(impl.MaxGreatest) {
		got, ok := impl.SpreadOfParts(n)
		wantNoTable(t, named("SpreadOfParts", n), got, ok)
	}
}

func TestGreatestTable(t *testing.T) {
	for n := 2; n <= impl.MaxGreatest; n++ {
		want := make([]int, n)
		for _, rows := range descending(n) {
			want[equalParts(rows, n)]++
		}
		got, ok := impl.GreatestTable(n)
		wantRow(t, named("GreatestTable", n), got, ok, want)
		byFirst, ok := impl.CountByFirst(n)
		wantRow(t, named("CountByFirst", n), byFirst, ok, want)
	}
	for _, n := range append(sizesBeside(impl.MaxGreatest), 1) {
		got, ok := impl.GreatestTable(n)
		wantNoRow(t, named("GreatestTable", n), got, ok)
	}
}

func TestFirstRows(t *testing.T) {
	for n := 1; n <= impl.MaxGreatest; n++ {
		got, ok := impl.FirstRows(n)
		wantTable(t, named("FirstRows", n), got, ok, descendingRows(n))
	}
	for _, n := range sizesBeside(impl.MaxGreatest) {
		got, ok := impl.FirstRows(n)
		wantNoTable(t, named("FirstRows", n), got, ok)
	}
}

func TestRowsBelow(t *testing.T) {
	all := descendingRows(greatestOfAll)
	for _, row := range all {
		var want [][]int
		for _, below := range all {
			if descends([][]int{row, below}, greatestOfAll) {
				want = append(want, below)
			}
		}
		got, ok := impl.RowsBelow(row)
		wantTable(t, named("RowsBelow", row), got, ok, want)
	}
}

func TestRowsBelowChosenRows(t *testing.T) {
	for _, c := range []struct {
		row  []int
		want [][]int
	}{
		{[]int{2}, nil},
		{[]int{6}, nil},
		{[]int{3, 1}, nil},
		{[]int{3, 2}, nil},
		{[]int{3, 3}, [][]int{{2}}},
		{[]int{6, 6}, [][]int{{2}}},
		{[]int{4, 4, 4}, [][]int{{2}, {3}, {3, 1}, {3, 2}, {3, 3}}},
		{[]int{6, 3, 2}, [][]int{{2}}},
		{[]int{6, 4, 2}, [][]int{{2}, {3}, {3, 1}}},
		{[]int{6, 5, 1, 1}, [][]int{{2}, {3}, {4}}},
	} {
		got, ok := impl.RowsBelow(c.row)
		wantTable(t, named("RowsBelow", c.row), got, ok, c.want)
	}
}

func TestRowsBelowFails(t *testing.T) {
	for size := range 6 {
		eachList(size, 0, 7, func(row []int) bool {
			got, ok := impl.RowsBelow(row)
			is := descends([][]int{row}, greatestOfAll)
			if ok != is || !is && len(got) > 0 {
				t.Fatalf("RowsBelow of %v: %v, %t", row, got, ok)
			}
			return is
		})
	}
	for _, rows := range notDescending() {
		if len(rows) == 1 {
			got, ok := impl.RowsBelow(rows[0])
			wantNoTable(t, "RowsBelow of "+short(rows), got, ok)
		}
	}
}

func TestRankDescending(t *testing.T) {
	all := descending(greatestOfAll)
	for n := 1; n <= impl.MaxGreatest; n++ {
		next := 0
		for _, rows := range all {
			rank, ok := impl.RankDescending(rows, n)
			if !descends(rows, n) {
				wantNoNumber(t, fmt.Sprintf("RankDescending of %v, %d", rows, n), rank, ok)
				continue
			}
			wantNumber(t, fmt.Sprintf("RankDescending of %v, %d", rows, n), rank, ok, next)
			next++
		}
	}
	for _, n := range sizesBeside(impl.MaxGreatest) {
		for _, rows := range [][][]int{nil, {{2}}, {{3, 3}, {2}}, {{5}}, {{1}}} {
			rank, ok := impl.RankDescending(rows, n)
			wantNoNumber(t, fmt.Sprintf("RankDescending of %v, %d", rows, n), rank, ok)
		}
	}
}

func TestDescendingWith(t *testing.T) {
	for n := 1; n <= impl.MaxGreatest; n++ {
		list := descending(n)
		for rank, want := range list {
			rows, ok := impl.DescendingWith(n, rank)
			wantTable(t, fmt.Sprintf("DescendingWith of %d, %d", n, rank), rows, ok, want)
			back, ok := impl.RankDescending(rows, n)
			wantNumber(t, named("RankDescending", rows), back, ok, rank)
		}
		for _, rank := range numbersBeside(0, len(list)-1) {
			rows, ok := impl.DescendingWith(n, rank)
			wantNoTable(t, fmt.Sprintf("DescendingWith of %d, %d", n, rank), rows, ok)
		}
	}
	for _, n := range sizesBeside(impl.MaxGreatest) {
		for _, rank := range []int{0, 1, -1, math.MaxInt, math.MinInt} {
			rows, ok := impl.DescendingWith(n, rank)
			wantNoTable(t, fmt.Sprintf("DescendingWith of %d, %d", n, rank), rows, ok)
		}
	}
}

// textOfRows makes the text of a partition from the way in which rows are printed.
func textOfRows(rows [][]int) string {
	if len(rows) == 0 {
		return "-"
	}
	text := strings.ReplaceAll(fmt.Sprint(rows), "] [", "/")
	return strings.NewReplacer(" ", "", "[", "", "]", "").Replace(text)
}

func TestDescendingTextsAndBack(t *testing.T) {
	for _, rows := range descending(greatestOfAll) {
		want := textOfRows(rows)
		text, ok := impl.DescendingText(rows)
		if !ok || text != want {
			t.Fatalf("DescendingText of %v: %s, %t instead of %s", rows, text, ok, want)
		}
		back, ok := impl.ParseDescending(want)
		wantTable(t, "ParseDescending "+want, back, ok, rows)
	}
}

// byText has the partitions for 6 by their texts.
func byText() map[string][][]int {
	known := map[string][][]int{}
	for _, rows := range descending(greatestOfAll) {
		known[textOfRows(rows)] = rows
	}
	return known
}

// wantParsed checks a text that may be one of a partition, which only known tells.
func wantParsed(t *testing.T, text string, known map[string][][]int) {
	t.Helper()
	got, ok := impl.ParseDescending(text)
	if rows, is := known[text]; is {
		wantTable(t, "ParseDescending "+text, got, ok, rows)
		return
	}
	wantNoTable(t, fmt.Sprintf("ParseDescending %q", short(text)), got, ok)
}

func TestParseDescendingOfAllTexts(t *testing.T) {
	known := byText()
	const bytes = "-/01234567"
	for size := range 6 {
		text := make([]byte, size)
		eachList(size, 0, len(bytes)-1, func(list []int) bool {
			for i, v := range list {
				text[i] = bytes[v]
			}
			wantParsed(t, string(text), known)
			return true
		})
	}
}

func TestParseDescendingOfBytes(t *testing.T) {
	known := byText()
	for value := range 256 {
		for _, text := range []string{"-", "2", "443/31", "--", "2/", "/2", "66666/5555/444/33/2"} {
			for place := range text {
				bytes := []byte(text)
				bytes[place] = byte(value)
				wantParsed(t, string(bytes), known)
			}
		}
	}
}

func TestParseDescendingFails(t *testing.T) {
	for _, text := range []string{
		"", "/", "//", "--", "-/", "/-", "-2", "2-", "-/2", "2/-", "- ", " -", "-\x00", "2/", "/2", "33//2", "33/2/", "/33/2", "33/2/-", "33-2", "33 /2", "33/ 2", " 33/2", "33/2\n",
		"3 3", "3,3", "+2", "2.", "02", "20", "7", "77", "0", "1", "\uff12", "\u0662", "\xb2", "a", "22", "21", "311", "34", "33/3", "32/2", "2/2", "33/2/1", "666666",
		"66666/5555/444/33/2/1", "66666/5555/444/33/2/", "66666/5555/444/33/2/2", "66666/5555/444/33/2/-",
		strings.Repeat("2", 100000), strings.Repeat("/", 100000), strings.Repeat("2/", 100000), strings.Repeat("-", 100000), strings.Repeat("6", 256+5),
	} {
		got, ok := impl.ParseDescending(text)
		wantNoTable(t, fmt.Sprintf("ParseDescending %q", short(text)), got, ok)
	}
}

func TestGivenExampleOfDescending(t *testing.T) {
	list, ok := impl.AllDescending(3)
	if got := textsOfAll(t, list); !ok || got != "- 2 3 31 32 33 33/2" {
		t.Errorf("AllDescending of 3: %s, %t", got, ok)
	}
	special, ok := impl.SpecialParts([][]int{{3, 1}})
	wantNumber(t, "SpecialParts of 31", special, ok, 1)
	special, ok = impl.SpecialParts([][]int{{3, 3}, {2}})
	wantNumber(t, "SpecialParts of 33/2", special, ok, 0)
}

func TestPartitionWithoutRows(t *testing.T) {
	for _, none := range [][][]int{nil, {}} {
		text, ok := impl.DescendingText(none)
		if text != "-" || !ok {
			t.Errorf("DescendingText: %q, %t", text, ok)
		}
		for name, call := range descendingNumbers() {
			got, ok := call(none)
			wantNumber(t, name, got, ok, 0)
		}
		for n := 1; n <= greatestOfAll; n++ {
			if !wantIsDescending(t, none, n) {
				t.Errorf("no partition for %d", n)
			}
		}
	}
	got, ok := impl.ParseDescending("-")
	wantTable(t, "ParseDescending of -", got, ok, nil)
}

func TestDescendingForOne(t *testing.T) {
	list, ok := impl.AllDescending(1)
	if !ok || len(list) != 1 || len(list[0]) != 0 {
		t.Errorf("AllDescending of 1: %v, %t", list, ok)
	}
	spread, ok := impl.SpreadOfParts(1)
	wantTable(t, "SpreadOfParts of 1", spread, ok, [][]int{{1}})
	rows, ok := impl.FirstRows(1)
	wantTable(t, "FirstRows of 1", rows, ok, nil)
	count, ok := impl.CountDescending(1)
	wantNumber(t, "CountDescending of 1", count, ok, 1)
	count, ok = impl.CountByDeterminant(1)
	wantNumber(t, "CountByDeterminant of 1", count, ok, 1)
}

func TestLimitOfDescending(t *testing.T) {
	if impl.MaxGreatest != 4 {
		t.Error("MaxGreatest", impl.MaxGreatest)
	}
}

// descendingNumbers are the functions of chapter 7 that tell a number of a partition for 6.
func descendingNumbers() map[string]func(rows [][]int) (int, bool) {
	calls := map[string]func(rows [][]int) (int, bool){
		"PartsOf":      impl.PartsOf,
		"SpecialParts": impl.SpecialParts,
		"SumOfParts":   impl.SumOfParts,
	}
	for n := 2; n <= greatestOfAll; n++ {
		calls[named("PartsEqual", n)] = func(rows [][]int) (int, bool) { return impl.PartsEqual(rows, n) }
	}
	for n := 1; n <= impl.MaxGreatest; n++ {
		calls[named("RankDescending", n)] = func(rows [][]int) (int, bool) { return impl.RankDescending(rows, n) }
	}
	return calls
}

func TestPartitionsAreRequired(t *testing.T) {
	for _, rows := range append(notDescending(), identity(3), identity(50)) {
		for name, call := range descendingNumbers() {
			got, ok := call(rows)
			wantNoNumber(t, name+" of "+short(rows), got, ok)
		}
		if text, ok := impl.DescendingText(rows); text != "" || ok {
			t.Errorf("DescendingText of %s: %s, %t", short(rows), text, ok)
		}
	}
}

func TestNoPartitionIsChanged(t *testing.T) {
	for _, rows := range append(notDescending(), descending(greatestOfAll)...) {
		argument := guarded(rows)
		for _, call := range descendingNumbers() {
			call(argument)
		}
		impl.DescendingText(argument)
		for _, n := range []int{0, 1, 3, 4, 5, 6, 7} {
			impl.IsDescending(argument, n)
		}
		if !untouched(argument, rows) {
			t.Fatalf("%s is changed", short(rows))
		}
	}
}

func TestRowsBelowAreNew(t *testing.T) {
	rows := descendingRows(greatestOfAll)
	for _, table := range notDescending() {
		if len(table) == 1 {
			rows = append(rows, table[0])
		}
	}
	for _, row := range rows {
		argument := [][]int{row}
		wantNewMemory(t, tableCall{"RowsBelow", asTable(impl.RowsBelow)}, argument)
	}
}

func TestSpareRoomOfARowIsNotRead(t *testing.T) {
	long := []int{4, 4, 4, 1, 1}
	got, ok := impl.RowsBelow(long[:2])
	wantTable(t, "RowsBelow of 44", got, ok, [][]int{{2}})
	parts, ok := impl.PartsOf([][]int{long[:3], long[3:3]}[:1])
	wantNumber(t, "PartsOf of 444", parts, ok, 3)
}

// descendingTables are the functions of chapter 7 that make a table of a number in 1..MaxGreatest.
func descendingTables() map[string]func(n int) ([][]int, bool) {
	return map[string]func(n int) ([][]int, bool){
		"SpreadOfParts": impl.SpreadOfParts,
		"FirstRows":     impl.FirstRows,
		"GreatestTable": ofCounts(impl.GreatestTable),
		"the last one": func(n int) ([][]int, bool) {
			count, _ := impl.CountDescending(n)
			return impl.DescendingWith(n, count-1)
		},
		"the parsed one": func(n int) ([][]int, bool) {
			return impl.ParseDescending([]string{"444/33/2", "33/2", "66666/5555/444/33/2", "66666/5333/2"}[n-1])
		},
	}
}

func TestTablesOfDescendingAreNew(t *testing.T) {
	for n := 1; n <= impl.MaxGreatest; n++ {
		for name, call := range descendingTables() {
			wantNewRows(t, named(name, n), func() ([][]int, bool) { return call(n) })
		}
	}
}

func TestListedPartitionsAreApart(t *testing.T) {
	for n := 1; n <= impl.MaxGreatest; n++ {
		wantNewTables(t, named("AllDescending", n), func() ([][][]int, bool) { return impl.AllDescending(n) }, descending(n))
	}
}
