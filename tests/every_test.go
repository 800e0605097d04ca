package tests

import (
	"fmt"
	"go/ast"
	"go/parser"
	"go/token"
	"maps"
	"math"
	"path/filepath"
	"reflect"
	"slices"
	"strings"
	"testing"

	"loop.example/g01123/impl"
)

// mostTried is how many lists of arguments are tried of a function that has so many.
const mostTried = 1500

// spreadBy is a prime number that is greater than the length of each list of arguments, so that its multiples come to all of them.
const spreadBy = 1000003

// everyFunction has all functions of the program.
func everyFunction() map[string]any {
	return map[string]any{
		"IsSignMatrix":    impl.IsSignMatrix,
		"IsPlacing":       impl.IsPlacing,
		"FromPlacing":     impl.FromPlacing,
		"CornerSums":      impl.CornerSums,
		"AreCorners":      impl.AreCorners,
		"FromCorners":     impl.FromCorners,
		"MinusOnes":       impl.MinusOnes,
		"InversionsOf":    impl.InversionsOf,
		"FirstColumn":     impl.FirstColumn,
		"TurnMatrix":      impl.TurnMatrix,
		"MirrorMatrix":    impl.MirrorMatrix,
		"TransposeMatrix": impl.TransposeMatrix,
		"StackMatrices":   impl.StackMatrices,
		"CountSigns":      impl.CountSigns,
		"LeastOfTurns":    impl.LeastOfTurns,
		"SignText":        impl.SignText,
		"ParseSigns":      impl.ParseSigns,

		"IsTriangle":        impl.IsTriangle,
		"TriangleOf":        impl.TriangleOf,
		"FromTriangle":      impl.FromTriangle,
		"RowsAbove":         impl.RowsAbove,
		"CountUnder":        impl.CountUnder,
		"FirstUnder":        impl.FirstUnder,
		"AllSigns":          impl.AllSigns,
		"RankSigns":         impl.RankSigns,
		"SignsAt":           impl.SignsAt,
		"NextSigns":         impl.NextSigns,
		"CountByFirst":      impl.CountByFirst,
		"CountByMinus":      impl.CountByMinus,
		"CountByInversions": impl.CountByInversions,
		"DescendsOf":        impl.DescendsOf,

		"HeightsOf":     impl.HeightsOf,
		"AreHeights":    impl.AreHeights,
		"FromHeights":   impl.FromHeights,
		"IsBelow":       impl.IsBelow,
		"MeetOf":        impl.MeetOf,
		"JoinOf":        impl.JoinOf,
		"LeastSigns":    impl.LeastSigns,
		"GreatestSigns": impl.GreatestSigns,
		"FlipsOf":       impl.FlipsOf,
		"FlipAt":        impl.FlipAt,
		"RankOf":        impl.RankOf,
		"FlipDistance":  impl.FlipDistance,
		"FlipPath":      impl.FlipPath,
		"FollowFlips":   impl.FollowFlips,
		"CountBetween":  impl.CountBetween,
		"IsJoinPart":    impl.IsJoinPart,
		"CountChains":   impl.CountChains,
		"DualOf":        impl.DualOf,

		"LoopsOf":          impl.LoopsOf,
		"AreLoops":         impl.AreLoops,
		"FromLoops":        impl.FromLoops,
		"EndsOf":           impl.EndsOf,
		"PatternOf":        impl.PatternOf,
		"CountClosed":      impl.CountClosed,
		"LineLengths":      impl.LineLengths,
		"WayFrom":          impl.WayFrom,
		"IsPattern":        impl.IsPattern,
		"AllPatterns":      impl.AllPatterns,
		"CountPatterns":    impl.CountPatterns,
		"TurnPattern":      impl.TurnPattern,
		"MirrorPattern":    impl.MirrorPattern,
		"CountByPattern":   impl.CountByPattern,
		"SignsWithPattern": impl.SignsWithPattern,
		"PatternText":      impl.PatternText,
		"ParsePattern":     impl.ParsePattern,

		"FlipColour":    impl.FlipColour,
		"GyrateSigns":   impl.GyrateSigns,
		"GyrateBack":    impl.GyrateBack,
		"GyrateSteps":   impl.GyrateSteps,
		"GyrationOrbit": impl.GyrationOrbit,
		"OrbitLength":   impl.OrbitLength,
		"LeastOfOrbit":  impl.LeastOfOrbit,
		"CountOrbits":   impl.CountOrbits,
		"OrbitLengths":  impl.OrbitLengths,
		"FlippedCells":  impl.FlippedCells,
		"PatternPeriod": impl.PatternPeriod,
		"CountFixed":    impl.CountFixed,
		"RowWave":       impl.RowWave,
		"ToggleCells":   impl.ToggleCells,

		"KindsOf":        impl.KindsOf,
		"FromKinds":      impl.FromKinds,
		"KindCounts":     impl.KindCounts,
		"WeightOf":       impl.WeightOf,
		"WeightSum":      impl.WeightSum,
		"FreeSum":        impl.FreeSum,
		"MinusTable":     impl.MinusTable,
		"InversionTable": impl.InversionTable,
		"JointTable":     impl.JointTable,
		"PowerOf":        impl.PowerOf,
		"LambdaSum":      impl.LambdaSum,
		"Condense":       impl.Condense,
		"CondenseSteps":  impl.CondenseSteps,
		"RowSets":        impl.RowSets,
		"SetWeight":      impl.SetWeight,
		"SetSum":         impl.SetSum,

		"IsDescending":       impl.IsDescending,
		"AllDescending":      impl.AllDescending,
		"CountDescending":    impl.CountDescending,
		"CountByDeterminant": impl.CountByDeterminant,
		"PartsOf":            impl.PartsOf,
		"SpecialParts":       impl.SpecialParts,
		"PartsEqual":         impl.PartsEqual,
		"SumOfParts":         impl.SumOfParts,
		"SpreadOfParts":      impl.SpreadOfParts,
		"GreatestTable":      impl.GreatestTable,
		"FirstRows":          impl.FirstRows,
		"RowsBelow":          impl.RowsBelow,
		"RankDescending":     impl.RankDescending,
		"DescendingWith":     impl.DescendingWith,
		"DescendingText":     impl.DescendingText,
		"ParseDescending":    impl.ParseDescending,

		"PatternWith":   impl.PatternWith,
		"RankPattern":   impl.RankPattern,
		"JoinAt":        impl.JoinAt,
		"JoinWord":      impl.JoinWord,
		"SmallArcs":     impl.SmallArcs,
		"OperatorOf":    impl.OperatorOf,
		"SumOperator":   impl.SumOperator,
		"ApplyOperator": impl.ApplyOperator,
		"SolutionOf":    impl.SolutionOf,
		"IsFixed":       impl.IsFixed,
		"ReachedFrom":   impl.ReachedFrom,
		"NestOf":        impl.NestOf,

		"HasSymmetry":     impl.HasSymmetry,
		"SymmetriesOf":    impl.SymmetriesOf,
		"ListSymmetric":   impl.ListSymmetric,
		"CountSymmetric":  impl.CountSymmetric,
		"HalfTurnFormula": impl.HalfTurnFormula,
		"MirrorFormula":   impl.MirrorFormula,
		"OrbitOf":         impl.OrbitOf,
		"CountUpToAll":    impl.CountUpToAll,
		"LeftHalf":        impl.LeftHalf,
		"FromLeftHalf":    impl.FromLeftHalf,
		"UpperHalf":       impl.UpperHalf,
		"FromUpperHalf":   impl.FromUpperHalf,
		"MiddleOf":        impl.MiddleOf,

		"FirstDesk":   impl.FirstDesk,
		"DeskLine":    impl.DeskLine,
		"RunScript":   impl.RunScript,
		"DeskAfter":   impl.DeskAfter,
		"FailedLines": impl.FailedLines,
	}
}

// exportedNames reads the names of all functions from the program's files.
func exportedNames(t *testing.T) []string {
	t.Helper()
	files, err := filepath.Glob("../impl/*.go")
	if err != nil || len(files) == 0 {
		t.Fatal("no files", err)
	}
	var names []string
	for _, file := range files {
		tree, err := parser.ParseFile(token.NewFileSet(), file, nil, parser.SkipObjectResolution)
		if err != nil {
			t.Fatal(err)
		}
		for _, d := range tree.Decls {
			if f, ok := d.(*ast.FuncDecl); ok && f.Recv == nil && f.Name.IsExported() {
				names = append(names, f.Name.Name)
			}
		}
	}
	slices.Sort(names)
	return names
}

func TestEveryFunctionIsTried(t *testing.T) {
	tried := slices.Sorted(maps.Keys(everyFunction()))
	if names := exportedNames(t); !slices.Equal(names, tried) {
		t.Errorf("tried are %v instead of %v", tried, names)
	}
}

// triedTables are of all kinds that functions take, and of none.
func triedTables() [][][]int {
	list := append(notSigns(), notDescending()[:20]...)
	for n := 1; n <= 3; n++ {
		list = append(list, signMatrices(n)...)
	}
	for _, m := range [][][]int{identity(4), identity(5), identity(6), greatestWanted(6), wideMirrored()} {
		list = append(list, m, heightsWanted(m), triangleWanted(m))
	}
	return append(list, leftWanted(wideMirrored()), upperWanted(identity(4)), [][]int{{3, 3}, {2}}, [][]int{{1, 1}, {1, 2}}, [][]int{{1, 2}, {3, 4}}, [][]int{{2, 2}, {2, 2}}, [][]int{{1, math.MaxInt}})
}

// triedLists are short, as each of them is told as a text.
func triedLists() [][]int {
	list := slices.DeleteFunc(notPatterns(), func(p []int) bool { return len(p) > 100 })
	list = append(list, []int{0}, []int{1, 0}, []int{3, 2, 1, 0, 5, 4}, []int{0, 2}, []int{0, 1, 2, 15}, []int{4, 4, 4}, []int{1, 1}, []int{2, 1, 1, 2, 1}, []int{5, 4, 3, 2, 1, 0})
	return append(list, patternsWanted(6)[0], []int{math.MaxInt}, []int{math.MinInt, math.MaxInt})
}

func triedNumbers() []int {
	return []int{0, 1, 2, 3, 4, 5, 6, 7, 8, 41, 1000, -1, -2, 1<<32 + 3, math.MaxInt, math.MinInt}
}

func triedTexts() []string {
	return append(someLines(), "+0/0+", "0+0/+-+/0+0", "()", "(())()", "33/2", "-", "/", "\x00", "\xff\n", "show\n", "show", "turn\nfly\nnext\n", strings.Repeat("(", 100000), strings.Repeat("\n", 51))
}

func triedDrawings() []impl.Loops {
	list := notLoops()
	for _, m := range [][][]int{identity(1), identity(3), greatestWanted(6)} {
		list = append(list, loopsWanted(m))
	}
	return list
}

// addTried puts arguments of one type beside those of others.
func addTried[T any](tried map[reflect.Type][]any, list []T) {
	for _, v := range list {
		tried[reflect.TypeFor[T]()] = append(tried[reflect.TypeFor[T]()], v)
	}
}

func triedByType() map[reflect.Type][]any {
	tried := map[reflect.Type][]any{}
	addTried(tried, triedTables())
	addTried(tried, triedLists())
	addTried(tried, triedNumbers())
	addTried(tried, triedTexts())
	addTried(tried, triedDrawings())
	addTried(tried, []bool{false, true})
	return tried
}

// freshOf copies an argument so that it has spare capacity.
func freshOf(argument any) any {
	switch v := argument.(type) {
	case [][]int:
		return guarded(v)
	case []int:
		return guardedRow(v)
	case impl.Loops:
		return guardedLoops(v)
	default:
		return argument
	}
}

// eachArguments calls visit for lists of arguments: for all of them, or for some that are spread over all.
func eachArguments(f reflect.Type, tried map[reflect.Type][]any, visit func(arguments []any)) {
	all := 1
	for k := range f.NumIn() {
		all *= len(tried[f.In(k)])
	}
	for number := range min(all, mostTried) {
		rest := number * spreadBy % all
		var arguments []any
		for k := range f.NumIn() {
			list := tried[f.In(k)]
			arguments = append(arguments, list[rest%len(list)])
			rest /= len(list)
		}
		visit(arguments)
	}
}

func valuesOf(arguments []any) []reflect.Value {
	var values []reflect.Value
	for _, argument := range arguments {
		values = append(values, reflect.ValueOf(freshOf(argument)))
	}
	return values
}

// wholeOf is a slice with its spare capacity.
func wholeOf(v reflect.Value) reflect.Value { return v.Slice(0, v.Cap()) }

// textOf tells all that is in values, in spare capacity too.
func textOf(values []reflect.Value) string {
	var text strings.Builder
	var tell func(v reflect.Value)
	tell = func(v reflect.Value) {
		switch v.Kind() {
		case reflect.Slice:
			fmt.Fprint(&text, "[", v.Len(), ":")
			for k := range v.Cap() {
				tell(wholeOf(v).Index(k))
			}
			fmt.Fprint(&text, "]")
		case reflect.Struct:
			for k := range v.NumField() {
				tell(v.Field(k))
			}
		default:
			fmt.Fprintf(&text, "%#v ", v)
		}
	}
	for _, v := range values {
		tell(v)
	}
	return text.String()
}

// resultText tells what a caller sees of results.
func resultText(values []reflect.Value) string {
	text := ""
	for _, v := range values {
		text += fmt.Sprintf("%#v ", v)
	}
	// A nil slice and an empty one are the same value.
	return strings.ReplaceAll(strings.ReplaceAll(text, "(nil)", "{}"), "nil", "{}")
}

// memory is the addresses from begin up to end that a slice may write to.
type memory struct {
	begin, end uintptr
}

func memoryOf(values []reflect.Value) []memory {
	var list []memory
	var add func(v reflect.Value)
	add = func(v reflect.Value) {
		switch v.Kind() {
		case reflect.Slice:
			if v.Cap() > 0 {
				list = append(list, memory{v.Pointer(), v.Pointer() + uintptr(v.Cap())*v.Type().Elem().Size()})
			}
			for k := range v.Len() {
				add(v.Index(k))
			}
		case reflect.Struct:
			for k := range v.NumField() {
				add(v.Field(k))
			}
		}
	}
	for _, v := range values {
		add(v)
	}
	return list
}

func isApart(list []memory) bool {
	slices.SortFunc(list, func(a, b memory) int { return int(a.begin) - int(b.begin) })
	for k := range len(list) - 1 {
		if list[k].end > list[k+1].begin {
			return false
		}
	}
	return true
}

// overwrite changes everything that results let a caller change.
func overwrite(v reflect.Value) {
	switch v.Kind() {
	case reflect.Slice:
		for k := range v.Cap() {
			overwrite(wholeOf(v).Index(k))
		}
	case reflect.Struct:
		for k := range v.NumField() {
			overwrite(v.Field(k))
		}
	case reflect.Int:
		if v.CanSet() {
			v.SetInt(99)
		}
	case reflect.String:
		if v.CanSet() {
			v.SetString("changed")
		}
	}
}

// isZeroIfFalse reports whether all results are zero, or the last one is no false.
func isZeroIfFalse(results []reflect.Value) bool {
	last := results[len(results)-1]
	if last.Kind() != reflect.Bool || last.Bool() {
		return true
	}
	return !slices.ContainsFunc(results, func(v reflect.Value) bool {
		return !v.IsZero() && (v.Kind() != reflect.Slice || v.Len() > 0)
	})
}

func wantTried(t *testing.T, call reflect.Value, arguments []any) {
	t.Helper()
	what := short(arguments)
	defer func() {
		if v := recover(); v != nil {
			t.Fatalf("%s: %v", what, v)
		}
	}()
	values := valuesOf(arguments)
	before := textOf(values)
	results := call.Call(values)
	want := resultText(results)
	if !isZeroIfFalse(results) {
		t.Fatalf("%s: %s", what, want)
	}
	if !isApart(append(memoryOf(values), memoryOf(results)...)) {
		t.Fatalf("%s: results share memory", what)
	}
	for _, v := range results {
		overwrite(v)
	}
	if textOf(values) != before {
		t.Fatalf("%s: an argument is changed", what)
	}
	if again := resultText(call.Call(values)); again != want {
		t.Fatalf("%s: %s behind %s", what, again, want)
	}
}

func TestEveryFunctionTakesAllArguments(t *testing.T) {
	tried := triedByType()
	for name, function := range everyFunction() {
		t.Run(name, func(t *testing.T) {
			call := reflect.ValueOf(function)
			eachArguments(call.Type(), tried, func(arguments []any) { wantTried(t, call, arguments) })
		})
	}
}
