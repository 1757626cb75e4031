package tests

import (
	"math"
	"slices"
	"strings"
	"testing"

	"loop.example/g01151/impl"
)

// Promise 11, for three times and one.

var (
	noStarts      = append([]int{0}, noNumbers...)
	noWordLengths = []int{-1, -2, -20, mostLetters + 1, mostLetters + 2, 40, 62, 63, 64, 1000, 1 << 32, math.MaxInt, math.MinInt}
	noLevels      = []int{-1, -2, -15, mostLevel + 1, mostLevel + 2, 62, 64, 1000, 1 << 32, math.MaxInt, math.MinInt}
	noRecords     = []int{0, -1, -2, -2000, mostRecord + 1, mostRecord + 2, limit, 1 << 32, math.MaxInt, math.MinInt}
	noStepsAdded  = []int{0, -1, -2, -3, -99, 2, 4, 50, 98, 100, 101, 103, 1001, limit + 1, 1<<32 + 1, math.MaxInt, math.MinInt, math.MinInt + 1}
	noCycleStarts = []int{0, -1, -2, -200, mostCycleStart + 1, mostCycleStart + 2, 2000, limit, 1 << 32, math.MaxInt, math.MinInt}
)

// checkNothingOfSteps has all functions of a number.
func checkNothingOfSteps(t *testing.T, n int) {
	t.Helper()
	for name, call := range map[string]func(int) (int, bool){
		"StepOf":     impl.StepOf,
		"StepsTo":    impl.StepsTo,
		"GreatestOn": impl.GreatestOn,
		"ShortStep":  impl.ShortStep,
		"FallsBelow": impl.FallsBelow,
	} {
		if got, ok := call(n); got != 0 || ok {
			t.Errorf("%s of %d: %d %v", name, n, got, ok)
		}
	}
	way, ok := impl.WayToOne(n)
	checkNoList(t, "WayToOne", way, ok)
	before, ok := impl.BeforeStep(n)
	checkNoList(t, "BeforeStep", before, ok)
	for k := range mostLetters + 1 {
		checkNoLetters(t, n, k)
	}
	for _, d := range stepsAdded() {
		checkNoStepWith(t, n, d)
	}
}

func checkNoWordOfSteps(t *testing.T, n int, k int) {
	t.Helper()
	if word, ok := impl.ParityWord(n, k); word != "" || ok {
		t.Errorf("ParityWord of %d with %d: %q %v", n, k, word, ok)
	}
	odd, ok := impl.OddCount(n, k)
	checkNoInt(t, "OddCount", odd, ok)
}

func checkNoLetters(t *testing.T, n int, k int) {
	t.Helper()
	checkNoWordOfSteps(t, n, k)
	after, ok := impl.AfterShort(n, k)
	checkNoInt(t, "AfterShort", after, ok)
}

func checkNoFraction(t *testing.T, w string, num int, den int, ok bool) {
	t.Helper()
	if num != 0 || den != 0 || ok {
		t.Errorf("CycleOfWord of %q: %d %d %v", w, num, den, ok)
	}
}

func checkNoNumberOfWord(t *testing.T, w string) {
	t.Helper()
	if n, ok := impl.NumberOfWord(w); n != 0 || ok {
		t.Errorf("NumberOfWord of %q: %d %v", w, n, ok)
	}
	num, den, ok := impl.CycleOfWord(w)
	checkNoFraction(t, w, num, den, ok)
}

func checkNoStepWith(t *testing.T, n int, d int) {
	t.Helper()
	if next, ok := impl.StepWith(n, d); next != 0 || ok {
		t.Errorf("StepWith of %d and %d: %d %v", n, d, next, ok)
	}
}

func checkNoCyclesWith(t *testing.T, d int, most int) {
	t.Helper()
	if cycles, ok := impl.CyclesWith(d, most); len(cycles) != 0 || ok {
		t.Errorf("CyclesWith %d from numbers up to %d: %v %v", d, most, cycles, ok)
	}
}

func TestNumbersBeyondTheLimitsOfSteps(t *testing.T) {
	for _, n := range noStarts {
		checkNothingOfSteps(t, n)
		for _, k := range noWordLengths {
			checkNoLetters(t, n, k)
		}
		for _, d := range noStepsAdded {
			checkNoStepWith(t, n, d)
		}
	}
}

func TestCountsOfLettersBeyondTheLimits(t *testing.T) {
	for _, k := range noWordLengths {
		for _, n := range startsToTry() {
			checkNoLetters(t, n, k)
		}
	}
}

func TestWordsBeyondTheLimits(t *testing.T) {
	for _, letter := range []string{"0", "1", "01", "10", "2", "\x00", "\xff", "ö"} {
		for _, length := range []int{21, 22, 40, 62, 63, 64, 65, 100, 1000, 100000} {
			checkNoNumberOfWord(t, strings.Repeat(letter, length))
		}
	}
}

func TestLevelsAndBoundsBeyondTheLimits(t *testing.T) {
	for _, k := range noLevels {
		level, ok := impl.LevelOf(k)
		checkNoList(t, "LevelOf", level, ok)
	}
	for _, most := range noRecords {
		records, ok := impl.RecordsUpTo(most)
		checkNoList(t, "RecordsUpTo", records, ok)
	}
}

func TestNumbersAddedBeyondTheLimits(t *testing.T) {
	for _, d := range noStepsAdded {
		for _, n := range startsToTry() {
			checkNoStepWith(t, n, d)
		}
		for _, most := range append([]int{1, 2, 100, mostCycleStart}, noCycleStarts...) {
			checkNoCyclesWith(t, d, most)
		}
	}
	for _, most := range noCycleStarts {
		for _, d := range stepsAdded() {
			checkNoCyclesWith(t, d, most)
		}
	}
}

func TestResultsOfStepsAreNew(t *testing.T) {
	for name, call := range map[string]func() ([]int, bool){
		"WayToOne":           func() ([]int, bool) { return impl.WayToOne(27) },
		"WayToOne of 1":      func() ([]int, bool) { return impl.WayToOne(1) },
		"BeforeStep":         func() ([]int, bool) { return impl.BeforeStep(16) },
		"LevelOf":            func() ([]int, bool) { return impl.LevelOf(12) },
		"LevelOf 0":          func() ([]int, bool) { return impl.LevelOf(0) },
		"RecordsUpTo":        func() ([]int, bool) { return impl.RecordsUpTo(500) },
		"CyclesWith, joined": func() ([]int, bool) { cycles, ok := impl.CyclesWith(13, 50); return slices.Concat(cycles...), ok },
	} {
		first, _ := call()
		want := slices.Clone(first)
		second, _ := call()
		fill(first)
		third, _ := call()
		if !slices.Equal(second, want) || !slices.Equal(third, want) {
			t.Error(name, "results share memory", second, third)
		}
	}
}

func TestCyclesOfStepsShareNoMemory(t *testing.T) {
	for _, d := range []int{1, 5, 13, 59} {
		checkListsAreNew(t, "CyclesWith", func() [][]int {
			cycles, _ := impl.CyclesWith(d, 100)
			return cycles
		})
	}
}
