package tests

import (
	"math"
	"slices"
	"testing"

	"loop.example/g01151/impl"
)

// Promise 11, for sums of divisors.

var (
	noDivided      = []int{0, -1, -2, -6, -220, -mostDivided, mostDivided + 1, mostDivided + 2, 2 * mostDivided, limit, 1<<32 + 6, 1<<32 + 220, 1 << 62, math.MaxInt - 1, math.MaxInt, math.MinInt, math.MinInt + 1}
	noTerms        = []int{0, -1, -2, -mostTerms, mostTerms + 1, mostTerms + 2, 100, mostDivided, 1<<32 + 1, math.MaxInt, math.MinInt}
	noPaired       = []int{-1, -2, -220, -mostPaired, mostPaired + 1, mostPaired + 2, mostDivided, 1<<32 + 220, math.MaxInt, math.MinInt}
	noPerfectP     = []int{1, 0, -1, -2, -13, mostPerfectP + 1, mostPerfectP + 2, 19, 31, 61, 62, 63, 64, 65, 1<<32 + 2, math.MaxInt, math.MinInt}
	noThabitK      = []int{1, 0, -1, -2, -4, mostThabitK + 1, mostThabitK + 2, 31, 32, 62, 63, 64, 1<<32 + 2, math.MaxInt, math.MinInt}
	noSourced      = []int{1, 0, -1, -2, -100, mostOfSource + 1, mostOfSource + 2, mostDivided, 1<<32 + 6, math.MaxInt, math.MinInt}
	noMostOfSource = []int{-1, -2, -100, mostOfSource + 1, mostOfSource + 2, mostDivided, 1<<32 + 6, math.MaxInt, math.MinInt}
)

// checkNothingOfDivisors has all functions of a number.
func checkNothingOfDivisors(t *testing.T, n int) {
	t.Helper()
	for name, call := range map[string]func(int) (int, bool){
		"SumOfDivisors": impl.SumOfDivisors,
		"CountDivisors": impl.CountDivisors,
		"ProperSum":     impl.ProperSum,
		"KindOfNumber":  impl.KindOfNumber,
		"PartnerOf":     impl.PartnerOf,
	} {
		if got, ok := call(n); got != 0 || ok {
			t.Errorf("%s of %d: %d %v", name, n, got, ok)
		}
	}
	factors, ok := impl.PrimeFactors(n)
	checkNoList(t, "PrimeFactors", factors, ok)
	for most := 1; most <= mostTerms; most++ {
		checkNoRunOfSums(t, n, most)
	}
}

func checkNoRunOfSums(t *testing.T, n int, most int) {
	t.Helper()
	run, ok := impl.ProperRun(n, most)
	checkNoList(t, "ProperRun", run, ok)
	end, ok := impl.EndOfRun(n, most)
	checkNoInt(t, "EndOfRun", end, ok)
	circle, ok := impl.CircleOf(n, most)
	checkNoList(t, "CircleOf", circle, ok)
}

func checkNoPairs(t *testing.T, most int) {
	t.Helper()
	if pairs, ok := impl.PairsUpTo(most); len(pairs) != 0 || ok {
		t.Errorf("PairsUpTo %d: %v %v", most, pairs, ok)
	}
}

func TestNumbersBeyondTheLimitsOfDivisors(t *testing.T) {
	for _, n := range noDivided {
		checkNothingOfDivisors(t, n)
		for _, most := range noTerms {
			checkNoRunOfSums(t, n, most)
		}
	}
}

func TestTermsBeyondTheLimits(t *testing.T) {
	for _, most := range noTerms {
		for _, n := range []int{1, 2, 6, 12, 25, 220, 562, 12496, 14316, 138, mostDivided} {
			checkNoRunOfSums(t, n, most)
		}
	}
}

func TestBoundsOfDivisorsBeyondTheLimits(t *testing.T) {
	for _, most := range noPaired {
		checkNoPairs(t, most)
	}
	for _, p := range noPerfectP {
		n, ok := impl.EvenPerfect(p)
		checkNoInt(t, "EvenPerfect", n, ok)
	}
	for _, k := range noThabitK {
		checkThabit(t, k, 0, 0, false)
	}
	for _, n := range noSourced {
		sources, ok := impl.SourcesOf(n)
		checkNoList(t, "SourcesOf", sources, ok)
	}
	for _, most := range noMostOfSource {
		without, ok := impl.NoSources(most)
		checkNoList(t, "NoSources", without, ok)
	}
}

func TestResultsOfDivisorsAreNew(t *testing.T) {
	for name, call := range map[string]func() ([]int, bool){
		"PrimeFactors":          func() ([]int, bool) { return impl.PrimeFactors(mostDivided) },
		"PrimeFactors of prime": func() ([]int, bool) { return impl.PrimeFactors(7) },
		"ProperRun":             func() ([]int, bool) { return impl.ProperRun(138, mostTerms) },
		"ProperRun of 1":        func() ([]int, bool) { return impl.ProperRun(1, 1) },
		"CircleOf":              func() ([]int, bool) { return impl.CircleOf(7524, mostTerms) },
		"CircleOf perfect":      func() ([]int, bool) { return impl.CircleOf(6, 1) },
		"SourcesOf":             func() ([]int, bool) { return impl.SourcesOf(mostOfSource) },
		"NoSources":             func() ([]int, bool) { return impl.NoSources(mostOfSource) },
	} {
		first, _ := call()
		want := slices.Clone(first)
		second, _ := call()
		fill(first)
		third, _ := call()
		if !slices.Equal(second, want) || !slices.Equal(third, want) {
			t.Error(name, "results share memory", second, third)
		}
	}
}

func TestPairsShareNoMemory(t *testing.T) {
	checkListsAreNew(t, "PairsUpTo", func() [][]int {
		pairs, _ := impl.PairsUpTo(mostPaired)
		return pairs
	})
}
