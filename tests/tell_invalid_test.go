package tests

import (
	"math"
	"slices"
	"testing"

	"loop.example/g01151/impl"
)

// Promise 11, for words that tell themselves, and periods.

var (
	noSaySteps       = []int{-1, -2, -30, mostSaySteps + 1, mostSaySteps + 2, mostSaid, 1<<32 + 1, 1 << 62, math.MaxInt, math.MinInt}
	noSelfTelling    = []int{0, -1, -2, -4, mostSelfTelling + 1, mostSelfTelling + 2, 13, 1000, 1<<32 + 4, math.MaxInt, math.MinInt}
	noDenominators   = []int{0, -1, -2, -7, -mostFraction, mostFraction + 1, mostFraction + 2, 2003, 1 << 31, 1<<32 + 7, limit, math.MaxInt, math.MaxInt - 1, math.MinInt, math.MinInt + 1}
	noFractionDigits = []int{-1, -2, -200, mostFractionDigits + 1, mostFractionDigits + 2, mostSaid, 1 << 31, 1<<32 + 1, math.MaxInt, math.MinInt}
	noFullPrimes     = []int{-1, -2, -7, -300, mostFullPrime + 1, mostFullPrime + 2, 307, 1 << 31, 1<<32 + 7, math.MaxInt, math.MinInt}
)

// noWordsToSay returns lists that can neither be said nor unsaid, or begin a run.
func noWordsToSay() [][]int {
	lists := [][]int{zigzag(mostSaid + 1), zigzag(mostSaid + 2), zigzag(2 * mostSaid), ones(10), ones(mostSaid), ones(mostSaid + 1), make([]int, 100000)}
	for _, number := range []int{0, -1, -2, -9, 10, 11, 16, 1 << 32, 1<<32 + 1, math.MaxInt, math.MinInt, math.MinInt + 1} {
		lists = append(lists, []int{number}, []int{1, number}, []int{number, 1}, []int{2, 1, number, 3}, []int{2, 1, 3, number}, slices.Repeat([]int{number}, 10), append(zigzag(mostSaid-1), number))
	}
	return lists
}

// checkNotTold takes a list that has too few numbers or too many.
func checkNotTold(t *testing.T, list []int) {
	t.Helper()
	counts, ok := impl.TellCounts(list)
	checkNoList(t, "TellCounts", counts, ok)
	if is, ok := impl.IsSelfTelling(list); is || ok {
		t.Errorf("IsSelfTelling %v: %v %v", list, is, ok)
	}
}

func checkNoDigitsOf(t *testing.T, a int, n int, base int, k int) {
	t.Helper()
	digits, ok := impl.FractionDigits(a, n, base, k)
	checkNoList(t, "FractionDigits", digits, ok)
}

// checkNoFractionOf has all functions of a fraction.
func checkNoFractionOf(t *testing.T, a int, n int, base int) {
	t.Helper()
	if before, again, ok := impl.PeriodOf(a, n, base); before != 0 || again != 0 || ok {
		t.Errorf("PeriodOf %d / %d in base %d: %d %d %v", a, n, base, before, again, ok)
	}
	for _, k := range []int{0, 1, mostFractionDigits} {
		checkNoDigitsOf(t, a, n, base, k)
	}
	repetend, ok := impl.RepetendOf(a, n, base)
	checkNoList(t, "RepetendOf", repetend, ok)
	checkHalves(t, a, n, base, nil, nil, false)
}

func checkNoDenominator(t *testing.T, n int, base int) {
	t.Helper()
	order, ok := impl.OrderOf(n, base)
	checkNoInt(t, "OrderOf", order, ok)
	for _, a := range []int{0, 1, 2, 7, mostFraction, n - 1, n, n + 1, -1, math.MaxInt, math.MinInt} {
		checkNoFractionOf(t, a, n, base)
	}
}

func checkNotCyclic(t *testing.T, p int, base int) {
	t.Helper()
	cyclic, ok := impl.CyclicOf(p, base)
	checkNoList(t, "CyclicOf", cyclic, ok)
	turns, ok := impl.TurnsOf(p, base)
	checkNoList(t, "TurnsOf", turns, ok)
}

func checkNoFullPrimes(t *testing.T, base int, most int) {
	t.Helper()
	primes, ok := impl.FullPrimes(base, most)
	checkNoList(t, "FullPrimes", primes, ok)
}

func TestListsThatCannotBeSaid(t *testing.T) {
	for _, list := range noWordsToSay() {
		checkNotSaid(t, list)
		checkNotUnsaid(t, list)
		for _, steps := range noSaySteps {
			checkSayRun(t, list, steps, nil)
		}
	}
}

func TestStepsOfSayingBeyondTheLimits(t *testing.T) {
	for _, steps := range noSaySteps {
		for _, word := range [][]int{nil, {1}, {2, 2}, {1, 1, 2}, zigzag(mostSaid)} {
			checkSayRun(t, word, steps, nil)
		}
	}
}

func TestListsOfTooFewOrTooManyNumbersTold(t *testing.T) {
	for _, length := range []int{0, mostTold + 1, mostTold + 2, mostSaid, 100000} {
		for _, number := range []int{0, 1, 2, length, -1, math.MaxInt, math.MinInt} {
			checkNotTold(t, slices.Repeat([]int{number}, length))
		}
	}
}

func TestNumbersOfToldListsMayBeAny(t *testing.T) {
	for length := 1; length <= mostTold; length++ {
		for _, number := range []int{-1, -2, length, length + 1, 1 << 32, 1<<32 + 1, math.MaxInt, math.MinInt} {
			list := slices.Repeat([]int{number}, length)
			counts, ok := impl.TellCounts(list)
			checkSaid(t, "TellCounts", list, counts, ok, make([]int, length))
			for place := range list {
				other := make([]int, length)
				other[place] = number
				checkTelling(t, other)
			}
		}
	}
}

func TestLengthsOfSelfTellingListsBeyondTheLimits(t *testing.T) {
	for _, n := range noSelfTelling {
		if lists, ok := impl.SelfTelling(n); len(lists) != 0 || ok {
			t.Errorf("SelfTelling %d: %v %v", n, lists, ok)
		}
	}
}

func TestDenominatorsBeyondTheLimits(t *testing.T) {
	for _, n := range noDenominators {
		for _, base := range slices.Concat(bases, noBases) {
			checkNoDenominator(t, n, base)
		}
	}
}

func TestNumeratorsBeyondTheLimits(t *testing.T) {
	for _, base := range bases {
		for _, n := range []int{1, 2, 3, 6, 7, 10, 401, mostFraction} {
			for _, a := range []int{-1, -2, -n, n, n + 1, 2 * n, 1 << 32, 1<<32 + 1, math.MaxInt, math.MinInt} {
				checkNoFractionOf(t, a, n, base)
			}
		}
	}
}

func TestBasesBeyondTheLimitsOfPeriods(t *testing.T) {
	for _, base := range noBases {
		for _, n := range []int{1, 2, 3, 7, 10, 17, 97, 401, mostFraction} {
			checkNoDenominator(t, n, base)
			checkNotCyclic(t, n, base)
			checkNoFullPrimes(t, base, n)
		}
		for _, most := range []int{0, 1, mostFullPrime, mostFullPrime + 1, -1} {
			checkNoFullPrimes(t, base, most)
		}
	}
}

func TestDigitsOfFractionsBeyondTheLimits(t *testing.T) {
	for _, k := range noFractionDigits {
		for _, base := range slices.Concat(bases, noBases) {
			for _, n := range []int{1, 2, 7, 12, mostFraction} {
				for _, a := range []int{0, 1, n - 1, n} {
					checkNoDigitsOf(t, a, n, base, k)
				}
			}
		}
	}
}

func TestPrimesBeyondTheLimits(t *testing.T) {
	for _, p := range noFullPrimes {
		for _, base := range slices.Concat(bases, noBases) {
			checkNoFullPrimes(t, base, p)
			checkNotCyclic(t, p, base)
		}
	}
	for _, base := range slices.Concat(bases, noBases) {
		checkNotCyclic(t, 0, base)
		checkNotCyclic(t, 1, base)
	}
}

// Each list lies within a longer array, whose numbers behind it have to stay as they are, and to have no effect.
func TestArgumentsOfTellingStayAsTheyAre(t *testing.T) {
	lists := append(noWordsToSay(), nil, []int{1}, []int{2, 2}, []int{1, 1, 2}, []int{2, 1, 1, 2}, []int{1, 2, 1, 0}, zigzag(200), zigzag(mostSaid), slices.Repeat([]int{2, 1, 2, 2}, mostSaid/4))
	for _, list := range lists {
		whole := append(slices.Clone(list), 1, 1, 2, -1, 7, 1000)
		before := slices.Clone(whole)
		part := whole[:len(list)]
		for name, call := range map[string]func([]int) ([]int, bool){
			"SayWord":      impl.SayWord,
			"UnsayWord":    impl.UnsayWord,
			"TellCounts":   impl.TellCounts,
			"LengthsOfSay": func(word []int) ([]int, bool) { return impl.LengthsOfSay(word, 3) },
		} {
			got, ok := call(part)
			alone, aloneOK := call(slices.Clone(list))
			if !slices.Equal(got, alone) || ok != aloneOK {
				t.Fatalf("%s %v depends on what is behind", name, list)
			}
			fill(got)
		}
		impl.IsSelfTelling(part)
		for _, steps := range []int{0, 1, 3} {
			run, _ := impl.SayRun(part, steps)
			for _, word := range run {
				fill(word)
			}
		}
		if !slices.Equal(whole, before) {
			t.Fatalf("%v became %v", before, whole)
		}
	}
}

func TestResultsOfTellingAreNew(t *testing.T) {
	for name, call := range map[string]func() ([]int, bool){
		"SayWord":        func() ([]int, bool) { return impl.SayWord([]int{1, 1, 2}) },
		"UnsayWord":      func() ([]int, bool) { return impl.UnsayWord([]int{2, 1, 1, 2}) },
		"LengthsOfSay":   func() ([]int, bool) { return impl.LengthsOfSay([]int{1}, 5) },
		"TellCounts":     func() ([]int, bool) { return impl.TellCounts([]int{1, 2, 1, 0}) },
		"FractionDigits": func() ([]int, bool) { return impl.FractionDigits(1, 7, 10, 20) },
		"RepetendOf":     func() ([]int, bool) { return impl.RepetendOf(1, 14, 10) },
		"FullPrimes":     func() ([]int, bool) { return impl.FullPrimes(10, mostFullPrime) },
		"CyclicOf":       func() ([]int, bool) { return impl.CyclicOf(7, 10) },
		"TurnsOf":        func() ([]int, bool) { return impl.TurnsOf(7, 10) },
	} {
		first, _ := call()
		want := slices.Clone(first)
		second, _ := call()
		fill(first)
		third, _ := call()
		if len(want) == 0 || !slices.Equal(second, want) || !slices.Equal(third, want) {
			t.Error(name, "results share memory", second, third)
		}
	}
}

func TestListsOfTellingShareNoMemory(t *testing.T) {
	for name, call := range map[string]func() ([][]int, bool){
		"SayRun":      func() ([][]int, bool) { return impl.SayRun([]int{1}, 12) },
		"SayRun 2 2":  func() ([][]int, bool) { return impl.SayRun([]int{2, 2}, 4) },
		"SelfTelling": func() ([][]int, bool) { return impl.SelfTelling(4) },
		"HalvesOf": func() ([][]int, bool) {
			first, second, ok := impl.HalvesOf(1, 13, 10)
			return [][]int{first, second}, ok
		},
	} {
		checkListsAreNew(t, name, func() [][]int {
			lists, ok := call()
			if !ok {
				t.Fatal(name, "fails")
			}
			return lists
		})
	}
}
