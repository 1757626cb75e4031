package tests

import (
	"math"
	"slices"
	"testing"

	"loop.example/g01151/impl"
)

// Promise 11, for long numbers.

var (
	noMosts        = []int{-1, -2, -100, mostAdded + 1, mostAdded + 2, 1000, 1 << 32, math.MaxInt, math.MinInt}
	noSpreadWidths = []int{0, -1, -2, mostSpreadWidth + 1, mostSpreadWidth + 2, 40, 64, 1000, 1 << 32, math.MaxInt, math.MinInt}
)

// noLongDigits returns lists that are no digits in a base, or too many.
func noLongDigits(base int) [][]int {
	return [][]int{
		nil, {}, {-1}, {base}, {base + 1}, {0, 0}, {0, 1}, {0, -1}, {-1, 0}, {1, base}, {1, -1}, {base, 1}, {1, 0, base}, {1, -1, 1},
		{math.MaxInt}, {math.MinInt}, {1, math.MaxInt}, {1, math.MinInt}, {math.MaxInt, 1},
		make([]int, mostLong), make([]int, mostLong+1), make([]int, 1000),
		slices.Repeat([]int{1}, mostLong+1), append([]int{1}, make([]int, mostLong)...), slices.Repeat([]int{1}, 1000),
		append(slices.Repeat([]int{1}, mostLong-1), base), append(slices.Repeat([]int{1}, mostLong-1), -1),
		append(slices.Repeat([]int{1}, 11), base), append(slices.Repeat([]int{1}, 11), -1), append([]int{0}, slices.Repeat([]int{1}, 11)...),
	}
}

func checkNoMost(t *testing.T, digits []int, base int, most int) {
	t.Helper()
	times, ok := impl.StepsToSymmetric(digits, base, most)
	checkNoInt(t, "StepsToSymmetric", times, ok)
	if run, ok := impl.AddedRun(digits, base, most); len(run) != 0 || ok {
		t.Errorf("AddedRun of %v in base %d for %d: %v %v", digits, base, most, run, ok)
	}
}

func checkNoSources(t *testing.T, digits []int, base int) {
	t.Helper()
	count, ok := impl.CountSources(digits, base)
	checkNoInt(t, "CountSources", count, ok)
	first, ok := impl.FirstSource(digits, base)
	checkNoList(t, "FirstSource", first, ok)
}

func checkNoWidthOf(t *testing.T, width int, base int, most int) {
	t.Helper()
	if spread, ok := impl.StepsSpread(width, base, most); len(spread) != 0 || ok {
		t.Errorf("StepsSpread of width %d in base %d for %d: %v %v", width, base, most, spread, ok)
	}
	if number, times, ok := impl.SlowestNumber(width, base, most); number != 0 || times != 0 || ok {
		t.Errorf("SlowestNumber of width %d in base %d for %d: %d %d %v", width, base, most, number, times, ok)
	}
}

func checkNoLongNumber(t *testing.T, digits []int, base int) {
	t.Helper()
	for _, call := range []func([]int, int) ([]int, bool){impl.AddReversed, impl.CarriesOf, impl.SubtractReversed} {
		if list, ok := call(digits, base); len(list) != 0 || ok {
			t.Errorf("AddReversed, CarriesOf or SubtractReversed of %v in base %d: %v %v", digits, base, list, ok)
		}
	}
	for _, call := range []func([]int, int) (bool, bool){impl.HasNoCarry, impl.IsSymmetric} {
		if is, ok := call(digits, base); is || ok {
			t.Errorf("HasNoCarry or IsSymmetric of %v in base %d: %v %v", digits, base, is, ok)
		}
	}
	checkNoSources(t, digits, base)
	for _, most := range slices.Concat([]int{0, 1, mostAdded}, noMosts) {
		checkNoMost(t, digits, base, most)
	}
}

func TestListsThatAreNoLongNumbers(t *testing.T) {
	for _, base := range bases {
		for _, list := range noLongDigits(base) {
			checkNoLongNumber(t, list, base)
		}
		for _, list := range [][]int{{0}, {base - 1}, {1, 0}, slices.Repeat([]int{1}, mostLong)} {
			if _, ok := impl.CarriesOf(list, base); !ok {
				t.Error("CarriesOf fails", list, base)
			}
		}
	}
}

func TestBasesBeyondTheLimitsOfLongNumbers(t *testing.T) {
	for _, base := range noBases {
		for _, list := range append(noLongDigits(base), []int{0}, []int{1}, []int{1, 0}, []int{1, 0, 1}, []int{8, 9}, slices.Repeat([]int{1}, mostLong)) {
			checkNoLongNumber(t, list, base)
		}
		for width := range mostSpreadWidth + 2 {
			for _, most := range slices.Concat([]int{0, 1, mostAdded}, noMosts) {
				checkNoWidthOf(t, width, base, most)
			}
		}
	}
}

func TestMostTimesBeyondTheLimits(t *testing.T) {
	for _, most := range noMosts {
		for _, base := range bases {
			for _, digits := range longDigitsToTry(base) {
				checkNoMost(t, digits, base, most)
			}
			for width := range mostSpreadWidth + 2 {
				checkNoWidthOf(t, width, base, most)
			}
		}
	}
}

func TestWidthsOfNumbersBeyondTheLimits(t *testing.T) {
	for _, width := range noSpreadWidths {
		for _, base := range slices.Concat(bases, noBases) {
			for _, most := range slices.Concat([]int{0, 1, mostAdded}, noMosts) {
				checkNoWidthOf(t, width, base, most)
			}
		}
	}
}

func TestNeverWordsBeyondTheLimits(t *testing.T) {
	for _, k := range []int{1, 0, -1, -2, -17, 18, 19, 40, 1000, 1 << 32, math.MaxInt, math.MinInt} {
		word, ok := impl.NeverWord(k)
		checkNoList(t, "NeverWord", word, ok)
	}
}

// Each list lies within a longer array, whose numbers behind it have to stay as they are, and to have no effect.
func TestArgumentsOfLongNumbersStayAsTheyAre(t *testing.T) {
	for _, base := range slices.Concat(bases, noBases) {
		for _, list := range append(noLongDigits(base), []int{0}, []int{1, 0}, []int{1, 0, 1}, []int{1, 1, 0, 1, 0, 0}, []int{8, 9}, []int{9, 9}, []int{1, 9, 6}, []int{1, 2, 1}) {
			whole := append(slices.Clone(list), 1, 0, -1, 7, 1000)
			before := slices.Clone(whole)
			part := whole[:len(list)]
			for _, call := range []func([]int, int) ([]int, bool){impl.AddReversed, impl.CarriesOf, impl.SubtractReversed, impl.FirstSource} {
				got, ok := call(part, base)
				alone, aloneOK := call(slices.Clone(list), base)
				if !slices.Equal(got, alone) || ok != aloneOK {
					t.Fatalf("a call with %v in base %d depends on what is behind", list, base)
				}
				fill(got)
			}
			impl.HasNoCarry(part, base)
			impl.IsSymmetric(part, base)
			impl.CountSources(part, base)
			for _, most := range []int{-1, 0, 1, 5, mostAdded, mostAdded + 1} {
				impl.StepsToSymmetric(part, base, most)
				run, _ := impl.AddedRun(part, base, most)
				for _, digits := range run {
					fill(digits)
				}
			}
			if !slices.Equal(whole, before) {
				t.Fatalf("%v became %v in base %d", before, whole, base)
			}
		}
	}
}

func TestResultsOfLongNumbersAreNew(t *testing.T) {
	for name, call := range map[string]func() ([]int, bool){
		"AddReversed":      func() ([]int, bool) { return impl.AddReversed([]int{8, 9}, 10) },
		"CarriesOf":        func() ([]int, bool) { return impl.CarriesOf([]int{8, 9}, 10) },
		"FirstSource":      func() ([]int, bool) { return impl.FirstSource([]int{1, 2, 1}, 10) },
		"StepsSpread":      func() ([]int, bool) { return impl.StepsSpread(2, 10, 5) },
		"NeverWord":        func() ([]int, bool) { return impl.NeverWord(3) },
		"SubtractReversed": func() ([]int, bool) { return impl.SubtractReversed([]int{5, 3, 2}, 10) },
	} {
		first, _ := call()
		want := slices.Clone(first)
		second, _ := call()
		fill(first)
		third, _ := call()
		if !slices.Equal(second, want) || !slices.Equal(third, want) {
			t.Error(name, "results share memory", second, third)
		}
	}
}

func TestListsOfRunsOfAddingShareNoMemory(t *testing.T) {
	for _, digits := range [][]int{{8, 9}, {1, 9, 6}, {0}, {1, 1}, {9, 9, 9, 8}} {
		checkListsAreNew(t, "AddedRun", func() [][]int {
			run, _ := impl.AddedRun(digits, 10, mostAdded)
			return run
		})
		want := slices.Clone(digits)
		run, _ := impl.AddedRun(digits, 10, mostAdded)
		fill(run[0])
		if !slices.Equal(digits, want) {
			t.Errorf("AddedRun of %v hands the digits themselves out", want)
		}
	}
}
