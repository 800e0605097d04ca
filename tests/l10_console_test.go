package tests

import (
	"fmt"
	"regexp"
	"slices"
	"strings"
	"sync"
	"testing"

	"loop.example/g01123/impl"
)

var numberText = regexp.MustCompile(`\A(0|[1-9][0-9]{0,5})\z`)

// signsByText has all sign matrices.
var signsByText = sync.OnceValue(func() map[string][][]int {
	known := map[string][][]int{}
	for n := 1; n <= impl.MaxSide; n++ {
		for _, m := range signMatrices(n) {
			known[signTextWanted(m)] = m
		}
	}
	return known
})

// patternsByText has all patterns.
var patternsByText = sync.OnceValue(func() map[string][]int {
	known := map[string][]int{}
	for n := 1; n <= impl.MaxSide; n++ {
		for _, p := range patternsWanted(n) {
			known[textWanted(p)] = p
		}
	}
	return known
})

func signTextWanted(m [][]int) string {
	text := strings.Trim(fmt.Sprint(m), "[]")
	return strings.NewReplacer("] [", "/", " ", "", "-1", "-", "1", "+").Replace(text)
}

// isWordOf tells of each kind of words in the document's table which words are of it.
func isWordOf(kind, word string) bool {
	switch kind {
	case "I", "J", "N", "R":
		return numberText.MatchString(word)
	case "M":
		return signsByText()[word] != nil
	case "P":
		return patternsByText()[word] != nil
	default:
		return word == kind
	}
}

func isLineOf(form, line string) bool {
	return slices.EqualFunc(strings.Split(form, " "), strings.Split(line, " "), isWordOf)
}

// number reads a word that is known to be one.
func number(word string) int {
	v := 0
	fmt.Sscan(word, &v)
	return v
}

type effect func(m [][]int, words []string) ([][]int, bool)

// alone and withOther are effects of functions that take a matrix, or it and that of a word.
func alone(call func(m [][]int) ([][]int, bool)) effect {
	return func(m [][]int, _ []string) ([][]int, bool) { return call(m) }
}

func withOther(call func(m, k [][]int) ([][]int, bool)) effect {
	return func(m [][]int, words []string) ([][]int, bool) { return call(m, signsByText()[words[1]]) }
}

// effects are the upper rows of the document's table.
func effects() map[string]effect {
	return map[string]effect{
		"take M": func(_ [][]int, words []string) ([][]int, bool) { return signsByText()[words[1]], true },
		"at N R": func(_ [][]int, words []string) ([][]int, bool) {
			return impl.SignsAt(number(words[1]), number(words[2]))
		},
		"next":   alone(impl.NextSigns),
		"turn":   alone(impl.TurnMatrix),
		"mirror": alone(impl.MirrorMatrix),
		"flip I J": func(m [][]int, words []string) ([][]int, bool) {
			return impl.FlipAt(m, number(words[1]), number(words[2]))
		},
		"join M": withOther(impl.JoinOf),
		"meet M": withOther(impl.MeetOf),
		"spin N": func(m [][]int, words []string) ([][]int, bool) { return impl.GyrateSteps(m, number(words[1])) },
	}
}

type answer func(m [][]int, words []string) (string, bool)

func ofMatrix(call func(m [][]int) (int, bool)) answer {
	return func(m [][]int, _ []string) (string, bool) {
		v, ok := call(m)
		return fmt.Sprint(v), ok
	}
}

// answers are the lower rows of the document's table, but for the last one.
func answers() map[string]answer {
	return map[string]answer{
		"show":   func(m [][]int, _ []string) (string, bool) { return signTextWanted(m), true },
		"rank":   ofMatrix(impl.RankSigns),
		"height": ofMatrix(impl.RankOf),
		"minus":  ofMatrix(impl.MinusOnes),
		"lines": func(m [][]int, _ []string) (string, bool) {
			p, ok := impl.PatternOf(m)
			return textWanted(p), ok
		},
		"loops": ofMatrix(impl.CountClosed),
		"orbit": ofMatrix(impl.OrbitLength),
		"count N": func(_ [][]int, words []string) (string, bool) {
			v, ok := impl.CountSigns(number(words[1]))
			return fmt.Sprint(v), ok
		},
		"first N": func(_ [][]int, words []string) (string, bool) {
			counts, ok := impl.CountByFirst(number(words[1]))
			return strings.ReplaceAll(strings.Trim(fmt.Sprint(counts), "[]"), " ", ","), ok
		},
		"period P": func(_ [][]int, words []string) (string, bool) {
			v, ok := impl.PatternPeriod(patternsByText()[words[1]])
			return fmt.Sprint(v), ok
		},
	}
}

// lineWanted makes the call that a line names; it returns the matrix behind the line and the reply.
func lineWanted(m [][]int, line string) ([][]int, string) {
	words := strings.Split(line, " ")
	for form, change := range effects() {
		if isLineOf(form, line) {
			if changed, ok := change(m, words); ok {
				return changed, signTextWanted(changed)
			}
			return m, "no"
		}
	}
	for form, tell := range answers() {
		if isLineOf(form, line) {
			if text, ok := tell(m, words); ok {
				return m, text
			}
			return m, "no"
		}
	}
	return m, "what"
}

func wantReplied(t *testing.T, m [][]int, line string, want [][]int, reply string) {
	t.Helper()
	got, text, ok := impl.DeskLine(m, line)
	if !ok || text != reply || !sameTable(got, want) {
		t.Fatalf("%.60q on %v: %v, %q, %t instead of %v, %q", line, m, got, text, ok, want, reply)
	}
}

func wantLine(t *testing.T, m [][]int, line string) {
	t.Helper()
	want, reply := lineWanted(m, line)
	wantReplied(t, m, line, want, reply)
}

// wantWhat checks that a line changes nothing and that there is none such.
func wantWhat(t *testing.T, m [][]int, line string) {
	t.Helper()
	wantReplied(t, m, line, m, "what")
}

func wantNoLine(t *testing.T, m [][]int, line string) {
	t.Helper()
	if got, reply, ok := impl.DeskLine(m, line); len(got) != 0 || reply != "" || ok {
		t.Fatalf("%.60q on %v: %v, %q, %t instead of a failure", line, m, got, reply, ok)
	}
}

// exampleLines has a line for each row of the document's table but the last one.
func exampleLines() []string {
	return []string{
		"take +0/0+", "at 3 5", "next", "turn", "mirror", "flip 1 2", "join 0+0/00+/+00", "meet 0+0/00+/+00", "spin 2",
		"show", "rank", "height", "minus", "lines", "loops", "orbit", "count 5", "first 3", "period (())()",
	}
}

// linesFor lists lines that ask for what there is and for what there is not.
func linesFor(m [][]int) []string {
	lines := exampleLines()
	for v := range 10 {
		lines = append(lines, fmt.Sprintf("count %d", v), fmt.Sprintf("first %d", v), fmt.Sprintf("spin %d", v))
		for _, rank := range []int{0, v, 41, 42} {
			lines = append(lines, fmt.Sprintf("at %d %d", v, rank))
		}
	}
	for i := range len(m) + 2 {
		for j := range len(m) + 2 {
			lines = append(lines, fmt.Sprintf("flip %d %d", i, j))
		}
	}
	for _, text := range []string{"+", "0+/+0", "+00/0+0/00+", "0+00/+-+0/0+-+/00+0", "0000+/000+0/00+00/0+000/+0000"} {
		lines = append(lines, "take "+text, "join "+text, "meet "+text)
	}
	return lines
}

func TestLinesOfTheTable(t *testing.T) {
	for n := 1; n <= impl.MaxSide; n++ {
		for k, m := range signMatrices(n) {
			if n > 5 && k%53 != 0 {
				continue
			}
			for _, line := range linesFor(m) {
				wantLine(t, m, line)
			}
		}
	}
}

func TestJoinsAndMeetsOfPairs(t *testing.T) {
	for n := 1; n <= 3; n++ {
		for _, m := range signMatrices(n) {
			for size := 1; size <= 3; size++ {
				for _, k := range signMatrices(size) {
					text := signTextWanted(k)
					wantLine(t, m, "join "+text)
					wantLine(t, m, "meet "+text)
					wantReplied(t, m, "take "+text, k, text)
				}
			}
		}
	}
}

func TestTextsOfAllMatricesAreTaken(t *testing.T) {
	for text, m := range signsByText() {
		wantReplied(t, impl.FirstDesk(), "take "+text, m, text)
	}
}

func TestRanksOfLines(t *testing.T) {
	for n, count := range []int{0, 1, 2, 7, 42, 429, 7436} {
		for _, rank := range []int{0, 1, count / 2, count - 1, count, count + 1, 999999} {
			wantLine(t, impl.FirstDesk(), fmt.Sprintf("at %d %d", n, max(0, rank)))
		}
	}
}

func TestPeriodsOfAllPatterns(t *testing.T) {
	for text := range patternsByText() {
		wantLine(t, impl.FirstDesk(), "period "+text)
	}
}

func TestSpins(t *testing.T) {
	for _, text := range []string{"+", "0+/+0", "0+0/+-+/0+0", "000+/0+00/+000/00+0", "00+00/0+-+0/+-+-+/0+-+0/00+00"} {
		m := parsed(t, text)
		for count := range 30 {
			wantLine(t, m, fmt.Sprintf("spin %d", count))
		}
		for _, count := range []int{impl.MaxSteps - 1, impl.MaxSteps, impl.MaxSteps + 1, 999999} {
			wantLine(t, m, fmt.Sprintf("spin %d", count))
		}
	}
}

// consoleCase has the text of the matrix behind a line, which is the reply, too, if there is none.
type consoleCase struct {
	before, line, behind, reply string
}

func wantCases(t *testing.T, cases []consoleCase) {
	t.Helper()
	for _, c := range cases {
		if c.reply == "" {
			c.reply = c.behind
		}
		wantReplied(t, parsed(t, c.before), c.line, parsed(t, c.behind), c.reply)
	}
}

func TestKnownEffects(t *testing.T) {
	star, falling, rising := "0+0/+-+/0+0", "+00/0+0/00+", "00+/0+0/+00"
	wantCases(t, []consoleCase{
		{before: star, line: "take 0+/+0", behind: "0+/+0"},
		{before: star, line: "take +", behind: "+"},
		{before: star, line: "take " + star, behind: star},
		{before: star, line: "at 3 0", behind: rising},
		{before: star, line: "at 3 6", behind: falling},
		{before: star, line: "at 3 7", behind: star, reply: "no"},
		{before: star, line: "at 0 0", behind: star, reply: "no"},
		{before: star, line: "at 7 0", behind: star, reply: "no"},
		{before: falling, line: "at 2 1", behind: "+0/0+"},
		{before: star, line: "next", behind: "0+0/+00/00+"},
		{before: rising, line: "next", behind: "00+/+00/0+0"},
		{before: falling, line: "next", behind: falling, reply: "no"},
		{before: "00+/+00/0+0", line: "turn", behind: "0+0/+00/00+"},
		{before: "00+/+00/0+0", line: "mirror", behind: "+00/00+/0+0"},
		{before: star, line: "flip 1 1", behind: "+00/00+/0+0"},
		{before: star, line: "flip 1 2", behind: "00+/+00/0+0"},
		{before: falling, line: "flip 1 1", behind: "0+0/+00/00+"},
		{before: falling, line: "flip 1 2", behind: falling, reply: "no"},
		{before: star, line: "flip 0 1", behind: star, reply: "no"},
		{before: star, line: "flip 1 3", behind: star, reply: "no"},
		{before: "0+0/00+/+00", line: "join " + star, behind: "0+0/00+/+00"},
		{before: "0+0/+00/00+", line: "join +00/00+/0+0", behind: star},
		{before: star, line: "meet " + falling, behind: falling},
		{before: rising, line: "meet " + star, behind: star},
		{before: star, line: "join +0/0+", behind: star, reply: "no"},
		{before: star, line: "meet +", behind: star, reply: "no"},
		{before: star, line: "spin 0", behind: star},
		{before: star, line: "spin 1", behind: falling},
		{before: star, line: "spin 2", behind: rising},
		{before: star, line: "spin 1000", behind: falling},
		{before: star, line: "spin 1001", behind: star, reply: "no"},
	})
}

func TestKnownAnswers(t *testing.T) {
	star, great := "0+0/+-+/0+0", "0000+0/00+000/000+-+/+00000/0000+0/0+0000"
	var cases []consoleCase
	for _, c := range []struct{ before, line, reply string }{
		{star, "show", star},
		{star, "rank", "3"},
		{star, "height", "2"},
		{star, "minus", "1"},
		{star, "lines", "(())()"},
		{star, "loops", "0"},
		{star, "orbit", "3"},
		{great, "show", great},
		{great, "rank", "947"},
		{great, "height", "24"},
		{great, "minus", "1"},
		{great, "lines", "(()()()()())"},
		{great, "loops", "2"},
		{great, "orbit", "12"},
		{star, "count 1", "1"},
		{star, "count 3", "7"},
		{star, "count 8", "10850216"},
		{star, "count 9", "no"},
		{star, "count 0", "no"},
		{star, "first 1", "1"},
		{star, "first 3", "2,3,2"},
		{star, "first 6", "429,1287,2002,2002,1287,429"},
		{star, "first 7", "no"},
		{star, "first 0", "no"},
		{star, "period ()", "1"},
		{star, "period ()()()", "2"},
		{star, "period (())()", "3"},
		{star, "fly", "what"},
	} {
		cases = append(cases, consoleCase{c.before, c.line, c.before, c.reply})
	}
	wantCases(t, cases)
}

// linesBeside lists lines with other words than a line of the document's table.
func linesBeside(line string) []string {
	words := strings.Split(line, " ")
	list := []string{
		" " + line, line + " ", "  " + line, line + "  ", " " + line + " ", line + " " + line, line + " " + words[0], words[0] + " " + line,
		line + " 1", line + " +", line + " +0/0+", line + " ()", line + " fly", line + " N", line + " ?",
		strings.ToUpper(line), strings.ToUpper(line[:1]) + line[1:], line[:1] + strings.ToUpper(line[1:]),
		line + "\t", line + "\r", line + "\x00", line + "\v", line + "\u00a0", "\ufeff" + line, line + ";", line + " #",
	}
	if len(words) == 1 {
		return list
	}
	list = append(list, strings.Replace(line, " ", "  ", 1), strings.ReplaceAll(line, " ", "  "), strings.ReplaceAll(line, " ", "\t"), strings.ReplaceAll(line, " ", ""), strings.ReplaceAll(line, " ", ","))
	backwards := slices.Clone(words)
	slices.Reverse(backwards)
	list = append(list, strings.Join(backwards, " "))
	for k := range words {
		list = append(list, strings.Join(slices.Delete(slices.Clone(words), k, k+1), " "), strings.Join(append(slices.Clone(words[:k]), make([]string, len(words)-k)...), " "))
	}
	return list
}

func TestWordsOfLines(t *testing.T) {
	for _, line := range exampleLines() {
		if _, reply, ok := impl.DeskLine(impl.FirstDesk(), line); reply == "no" || reply == "what" || !ok {
			t.Errorf("%q: %q, %t", line, reply, ok)
		}
		for _, other := range linesBeside(line) {
			wantWhat(t, impl.FirstDesk(), other)
		}
	}
}

func TestKindsOfWords(t *testing.T) {
	kinds := []string{"0", "3", "+", "+0/0+", "0+0/+-+/0+0", "()", "(())()", "", "show", "N", "M", "P", "?"}
	var names []string
	for _, line := range exampleLines() {
		names = append(names, strings.Split(line, " ")[0])
	}
	for _, name := range append(names, kinds...) {
		wantLine(t, impl.FirstDesk(), name)
		for _, first := range kinds {
			wantLine(t, impl.FirstDesk(), name+" "+first)
			for _, second := range kinds {
				wantLine(t, impl.FirstDesk(), name+" "+first+" "+second)
				wantWhat(t, impl.FirstDesk(), name+" "+first+" "+second+" "+first)
			}
		}
	}
}

func TestBytesOfLines(t *testing.T) {
	for _, line := range exampleLines() {
		for place := range len(line) + 1 {
			for value := range 256 {
				if value == '\n' {
					continue
				}
				letter := string([]byte{byte(value)})
				wantLine(t, impl.FirstDesk(), line[:place]+letter+line[place:])
				wantLine(t, impl.FirstDesk(), line[:place]+letter+line[min(place+1, len(line)):])
			}
			wantLine(t, impl.FirstDesk(), line[:place])
			wantLine(t, impl.FirstDesk(), line[place:])
			wantLine(t, impl.FirstDesk(), line[:place]+line[min(place+1, len(line)):])
		}
	}
}

func TestUnknownLines(t *testing.T) {
	for _, line := range []string{
		"", " ", "  ", strings.Repeat(" ", 40), "fly", "0", "7", "+", "()", "?", "no", "what", "N", "M", "P", "take M", "at N R", "at N N", "flip I J", "flip N N",
		"join M", "meet M", "spin N", "count N", "first N", "period P", "take ?", "count ?", "shows", "sho", "show.", "ranks", "ran", "turned", "\r", "\t", "\x00",
		"\x80", "\xff\xfe", "\u00e9", "\uff53how", "sh\u00f6w", "show\x80", "count\u00a03", "count\xa03", "count 3\x80", "take +\xff",
	} {
		for _, m := range [][][]int{impl.FirstDesk(), {{1}}, identity(6)} {
			wantWhat(t, m, line)
		}
	}
}

// numberLines have a place for each number that may stand in a line, where the others suit.
func numberLines() []string {
	return []string{"at %s 0", "at 3 %s", "flip %s 1", "flip 1 %s", "spin %s", "count %s", "first %s"}
}

func TestNumbersOfLines(t *testing.T) {
	for _, line := range numberLines() {
		for _, v := range []int{0, 1, 2, 3, 4, 5, 6, 7, 8, 9, 10, 11, 99, 100, 1000, 1001, 10000, 99999, 100000, 100001, 999998, 999999} {
			asked := fmt.Sprintf(line, fmt.Sprint(v))
			wantLine(t, impl.FirstDesk(), asked)
			if _, reply, _ := impl.DeskLine(impl.FirstDesk(), asked); reply == "what" || (v == 999999 && reply != "no") {
				t.Errorf("%q: %q", asked, reply)
			}
		}
	}
}

func TestWordsThatAreNoNumbers(t *testing.T) {
	for _, line := range numberLines() {
		for _, word := range []string{
			"", "00", "01", "001", "03", "0000003", "0999999", "+1", "-1", "+0", "-0", "--1", "+", "-", "1000000", "1000001", "1000003", "9999999",
			"2147483648", "4294967297", "4294967299", "9223372036854775807", "9223372036854775808", "-9223372036854775808", "18446744073709551616",
			"18446744073709551617", "18446744073709551619", "340282366920938463463374607431768211457", "1" + strings.Repeat("0", 200), strings.Repeat("0", 200) + "1",
			"1.0", "1.", ".1", "1e0", "1e3", "0x1", "0b1", "0o1", "1_0", "1,0", "1/1", "1a", "a1", "1-", "1+", "one", "()", "+0/0+", "NaN", "\u0661", "\uff11", "\u00b2", "1\x00", "\t1", "1\t", "1\r",
		} {
			wantWhat(t, impl.FirstDesk(), fmt.Sprintf(line, word))
		}
	}
}

func TestWordsThatAreNoSigns(t *testing.T) {
	for _, name := range []string{"take", "join", "meet"} {
		for _, word := range []string{
			"", "0", "-", "/", "++", "+0/0+/", "/+0/0+", "+0//0+", "+0/0", "+0/+0", "00/00", "+0|0+", "10/01", "+00/0+0/0+0", "0+0/+0+/0+0", "00+/0+0/+01",
			signTextWanted(identity(7)), strings.Repeat("+", 50), strings.Repeat("/", 50), "()", "(())()", "show", "M", "\uff0b", "+\r", "+\x00", "\x80",
		} {
			wantWhat(t, impl.FirstDesk(), name+" "+word)
		}
	}
}

func TestWordsThatAreNoPatterns(t *testing.T) {
	for _, word := range []string{
		"", "(", ")", ")(", "((", "))", "())", "(()", "(()))(", "())(()", "[]", "{}", "<>", "(())()(", "()()()()()()()", "((((((()))))))", strings.Repeat("()", 50),
		strings.Repeat("(", 50), "+", "+0/0+", "3", "P", "lines", "( )", "()\r", "()\x00", "\uff08\uff09",
	} {
		wantWhat(t, impl.FirstDesk(), "period "+word)
	}
}

func TestLimitOfLines(t *testing.T) {
	for _, begin := range []string{"", "show", "show ", "count 3", "count 3 ", "count ", "take ", "period ", "at 3 ", " "} {
		for _, letter := range []string{" ", "0", "1", "9", "+", "/", "(", "x", "\x00", "\xff"} {
			line := begin + strings.Repeat(letter, impl.MaxScript-len(begin))
			wantWhat(t, impl.FirstDesk(), line)
			wantNoLine(t, impl.FirstDesk(), line+letter)
			wantNoLine(t, impl.FirstDesk(), strings.Repeat(line, 20))
		}
	}
	wantWhat(t, impl.FirstDesk(), strings.Repeat("\u00e9", impl.MaxScript/2))
	wantNoLine(t, impl.FirstDesk(), strings.Repeat("\u00e9", impl.MaxScript/2)+"x")
}

func TestLinesWithNewlines(t *testing.T) {
	for _, line := range append(exampleLines(), "", "fly", " ") {
		for place := range len(line) + 1 {
			wantNoLine(t, impl.FirstDesk(), line[:place]+"\n"+line[place:])
		}
		wantNoLine(t, impl.FirstDesk(), line+"\r\n")
		wantNoLine(t, impl.FirstDesk(), "\n"+line+"\n")
	}
}

func TestDeskLineRequiresSigns(t *testing.T) {
	for _, m := range notSigns() {
		for _, line := range append(exampleLines(), "", "fly", "count 9", strings.Repeat("x", impl.MaxScript), strings.Repeat("x", impl.MaxScript+1), "\n") {
			wantNoLine(t, m, line)
		}
	}
}

func TestDeskOfOneRow(t *testing.T) {
	one := [][]int{{1}}
	for _, c := range []struct{ line, reply string }{
		{"show", "+"}, {"turn", "+"}, {"mirror", "+"}, {"next", "no"}, {"flip 1 1", "no"}, {"flip 0 0", "no"}, {"join +", "+"}, {"meet +", "+"},
		{"join +0/0+", "no"}, {"spin 5", "+"}, {"at 1 0", "+"}, {"at 1 1", "no"}, {"rank", "0"}, {"height", "0"}, {"minus", "0"}, {"lines", "()"},
		{"loops", "0"}, {"orbit", "1"}, {"count 1", "1"}, {"first 1", "1"}, {"", "what"},
	} {
		wantReplied(t, one, c.line, one, c.reply)
	}
}

func TestFirstDesk(t *testing.T) {
	want := [][]int{{0, 1, 0}, {1, -1, 1}, {0, 1, 0}}
	wantTable(t, "FirstDesk", impl.FirstDesk(), true, want)
	wantNewRows(t, "FirstDesk", func() ([][]int, bool) { return impl.FirstDesk(), true })
	a, b := impl.FirstDesk(), impl.FirstDesk()
	if !tablesApart([][][]int{a, b}) {
		t.Error("two results share memory")
	}
	a, b = impl.FirstDesk(), impl.FirstDesk()
	if !rowsApart(slices.Concat(a, b)) {
		t.Error("rows of two results share memory")
	}
	wantTable(t, "FirstDesk again", impl.FirstDesk(), true, want)
}

func scriptOf(lines []string) string {
	script := ""
	for _, line := range lines {
		script += line + "\n"
	}
	return script
}

// wantScript executes lines one after the other, by the calls that they name and by DeskLine.
func wantScript(t *testing.T, lines []string) {
	t.Helper()
	var replies []string
	var failed []int
	m, desk := [][]int{{0, 1, 0}, {1, -1, 1}, {0, 1, 0}}, impl.FirstDesk()
	for k, line := range lines {
		var reply string
		m, reply = lineWanted(m, line)
		wantReplied(t, desk, line, m, reply)
		desk, _, _ = impl.DeskLine(desk, line)
		replies = append(replies, reply)
		if reply == "no" || reply == "what" {
			failed = append(failed, k+1)
		}
	}
	script := scriptOf(lines)
	got, ok := impl.RunScript(script)
	if !ok || !slices.Equal(got, replies) {
		t.Fatalf("RunScript of %q: %q, %t instead of %q", script, got, ok, replies)
	}
	after, ok := impl.DeskAfter(script)
	wantTable(t, fmt.Sprintf("DeskAfter of %q", script), after, ok, m)
	numbers, ok := impl.FailedLines(script)
	wantRow(t, fmt.Sprintf("FailedLines of %q", script), numbers, ok, failed)
}

func wantNoScript(t *testing.T, s string) {
	t.Helper()
	if replies, ok := impl.RunScript(s); len(replies) != 0 || ok {
		t.Errorf("RunScript of %.60q: %q, %t instead of a failure", s, replies, ok)
	}
	after, ok := impl.DeskAfter(s)
	wantNoTable(t, fmt.Sprintf("DeskAfter of %.60q", s), after, ok)
	numbers, ok := impl.FailedLines(s)
	wantNoRow(t, fmt.Sprintf("FailedLines of %.60q", s), numbers, ok)
}

// someLines are lines that scripts are made of.
func someLines() []string {
	return append(exampleLines(),
		"", " ", "fly", "next", "next", "turn", "mirror", "flip 1 1", "flip 2 1", "flip 3 2", "spin 1", "spin 999", "spin 1001", "at 4 17", "at 5 400", "at 6 7435", "at 7 0", "take +",
		"take 0+00/+-+0/0+-+/00+0", "take 00+/0+0/+00", "join 00+0/0+00/+-0+/0+00", "meet 0+00/+-+0/0+-+/00+0", "join +", "meet +00/0+0/00+", "count 9", "count 09", "first 7", "SHOW", "show ", "\xff", "\r",
	)
}

func TestScripts(t *testing.T) {
	pool := someLines()
	for seed := range 400 {
		var lines []string
		for _, k := range someWord(len(pool), seed%impl.MaxLines+1, seed) {
			lines = append(lines, pool[k])
		}
		wantScript(t, lines)
	}
}

func TestScriptsOfTwoLines(t *testing.T) {
	wantScript(t, nil)
	for _, first := range someLines() {
		wantScript(t, []string{first})
		for _, second := range someLines() {
			wantScript(t, []string{first, second})
		}
	}
}

func TestEmptyScript(t *testing.T) {
	replies, ok := impl.RunScript("")
	if len(replies) != 0 || !ok {
		t.Error("RunScript", replies, ok)
	}
	after, ok := impl.DeskAfter("")
	wantTable(t, "DeskAfter", after, ok, impl.FirstDesk())
	numbers, ok := impl.FailedLines("")
	wantRow(t, "FailedLines", numbers, ok, nil)
}

func TestLinesAreLimited(t *testing.T) {
	for _, line := range []string{"", "show", "next", "turn", "fly", "spin 1", "count 9"} {
		most := slices.Repeat([]string{line}, impl.MaxLines)
		wantScript(t, most[1:])
		wantScript(t, most)
		wantNoScript(t, scriptOf(append(most, line)))
		wantNoScript(t, scriptOf(append(most, "")))
		wantNoScript(t, scriptOf(append(most, line, line)))
		wantNoScript(t, scriptOf(most)+"x")
	}
	wantNoScript(t, strings.Repeat("\n", impl.MaxScript))
}

func TestBytesOfScriptsAreLimited(t *testing.T) {
	for _, lines := range [][]string{{}, {"turn", "", "next", "show"}, slices.Repeat([]string{"spin 1"}, impl.MaxLines-1)} {
		for _, letter := range []string{"x", " ", "0", "\xff"} {
			rest := impl.MaxScript - len(scriptOf(lines)) - 1
			wantScript(t, append(slices.Clone(lines), strings.Repeat(letter, rest-1)))
			wantScript(t, append(slices.Clone(lines), strings.Repeat(letter, rest)))
			wantNoScript(t, scriptOf(append(slices.Clone(lines), strings.Repeat(letter, rest+1))))
			wantNoScript(t, scriptOf(append([]string{strings.Repeat(letter, rest+1)}, lines...)))
		}
	}
	wantScript(t, []string{strings.Repeat("\u00e9", impl.MaxScript/2-1), ""})
	wantNoScript(t, strings.Repeat("\u00e9", impl.MaxScript/2)+"\n")
	wantNoScript(t, strings.Repeat("x", 100000)+"\n")
	wantNoScript(t, strings.Repeat("show\n", 100000))
}

func TestLastLinesWithoutNewline(t *testing.T) {
	for _, line := range append(exampleLines(), " ", "fly", "\r", "\x00") {
		wantNoScript(t, line)
		wantNoScript(t, "\n"+line)
		wantNoScript(t, "show\nturn\n"+line)
		wantNoScript(t, line+"\n"+line)
		wantNoScript(t, line+"\n ")
	}
}

func TestOtherEndsOfLines(t *testing.T) {
	for _, s := range []string{"show\r\n", "show\x00\n", "show\u2028\n", "show\u0085\n", "show\vturn\n", "show\fturn\n", "show\rturn\n"} {
		replies, ok := impl.RunScript(s)
		if !ok || !slices.Equal(replies, []string{"what"}) {
			t.Errorf("RunScript of %q: %q, %t", s, replies, ok)
		}
		numbers, ok := impl.FailedLines(s)
		wantRow(t, fmt.Sprintf("FailedLines of %q", s), numbers, ok, []int{1})
	}
	wantNoScript(t, "show\r")
	wantNoScript(t, "show\n\r")
}

func TestKnownScript(t *testing.T) {
	script := "show\n\nnext\ncount 9\nat 3 6\nnext\nNext\nat 4 5\njoin +0/0+\nflip 1 2 3\nspin 1001\nmirror\nrank\n"
	replies, ok := impl.RunScript(script)
	want := []string{"0+0/+-+/0+0", "what", "0+0/+00/00+", "no", "+00/0+0/00+", "no", "what", "000+/+000/00+0/0+00", "no", "what", "no", "+000/000+/0+00/00+0", "36"}
	if !ok || !slices.Equal(replies, want) {
		t.Errorf("RunScript: %q, %t", replies, ok)
	}
	after, ok := impl.DeskAfter(script)
	wantTable(t, "DeskAfter", after, ok, parsed(t, "+000/000+/0+00/00+0"))
	numbers, ok := impl.FailedLines(script)
	wantRow(t, "FailedLines", numbers, ok, []int{2, 4, 6, 7, 9, 10, 11})
}

func TestGivenExampleOfScripts(t *testing.T) {
	script := "lines\nspin 1\nlines\nflip 1 1\nfly\n"
	replies, ok := impl.RunScript(script)
	if !ok || !slices.Equal(replies, []string{"(())()", "+00/0+0/00+", "((()))", "0+0/+00/00+", "what"}) {
		t.Errorf("RunScript: %q, %t", replies, ok)
	}
	after, ok := impl.DeskAfter(script)
	wantTable(t, "DeskAfter", after, ok, parsed(t, "0+0/+00/00+"))
	numbers, ok := impl.FailedLines(script)
	wantRow(t, "FailedLines", numbers, ok, []int{5})
}

func TestLimitsOfScripts(t *testing.T) {
	if impl.MaxScript != 3000 || impl.MaxLines != 50 {
		t.Error("limits", impl.MaxScript, impl.MaxLines)
	}
}

// lineCall is DeskLine as one of the functions that make a table of a matrix.
func lineCall(line string) tableCall {
	return tableCall{line, func(m [][]int) ([][]int, bool) {
		behind, _, ok := impl.DeskLine(m, line)
		return behind, ok
	}}
}

func TestNoDeskIsChanged(t *testing.T) {
	for _, line := range append(someLines(), strings.Repeat("x", impl.MaxScript), strings.Repeat("x", impl.MaxScript+1), "\n", "show\n") {
		wantNewMemoryOfSigns(t, []tableCall{lineCall(line)})
	}
}

func TestRowsOfADeskMayShareMemory(t *testing.T) {
	whole := []int{0, 1, 0, 1, -1, 1, 0}
	m := [][]int{whole[:3], whole[3:6], whole[:3]}
	for _, line := range someLines() {
		want, reply := lineWanted(copyTable(m), line)
		wantReplied(t, m, line, want, reply)
		behind, _, _ := impl.DeskLine(m, line)
		if !rowsApart(behind) || !slices.Equal(whole, []int{0, 1, 0, 1, -1, 1, 0}) {
			t.Errorf("%q shares or changes memory", line)
		}
	}
}

func TestResultsOfScriptsAreNew(t *testing.T) {
	for _, line := range someLines() {
		script := "fly\n" + line + "\nshow\n\n"
		wantNewRows(t, named("DeskAfter", line), func() ([][]int, bool) { return impl.DeskAfter(script) })
		failed := ofRow(func([][]int) ([]int, bool) { return impl.FailedLines(script) })
		wantNewRows(t, named("FailedLines", line), func() ([][]int, bool) { return failed(nil) })
		replies, ok := impl.RunScript(script)
		want := slices.Clone(replies)
		for k := range replies[:cap(replies)] {
			replies[:cap(replies)][k] = "changed"
		}
		again, fine := impl.RunScript(script)
		if ok != fine || !slices.Equal(again, want) {
			t.Fatalf("RunScript of %q again: %q, %t instead of %q", script, again, fine, want)
		}
	}
}
