package tests

import (
	"math/big"
	"slices"
	"testing"

	"loop.example/g01151/impl"
)

// Promise 9: lists say themselves and tell their digits, and periods of fractions are orders.

func checkSaid(t *testing.T, name string, word []int, got []int, ok bool, want []int) {
	t.Helper()
	if !ok || !slices.Equal(got, want) {
		t.Fatalf("%s %v: %v %v, want %v", name, word, got, ok, want)
	}
}

// checkSaying asks what a list says, where that is no longer than can be said, and for the list again.
func checkSaying(t *testing.T, word []int) {
	t.Helper()
	said, ok := impl.SayWord(word)
	want := saidOf(word)
	if len(want) > mostSaid {
		checkNoList(t, "SayWord", said, ok)
		return
	}
	checkSaid(t, "SayWord", word, said, ok, want)
	unsaid, ok := impl.UnsayWord(said)
	checkSaid(t, "UnsayWord", said, unsaid, ok, word)
}

func checkUnsaying(t *testing.T, word []int) {
	t.Helper()
	unsaid, ok := impl.UnsayWord(word)
	if want, wok := unsaidOf(word); wok {
		checkSaid(t, "UnsayWord", word, unsaid, ok, want)
	} else if len(unsaid) != 0 || ok {
		t.Fatalf("UnsayWord %v: %v %v", word, unsaid, ok)
	}
}

func checkSayRun(t *testing.T, word []int, steps int, want [][]int) {
	t.Helper()
	run, ok := impl.SayRun(word, steps)
	if ok != (want != nil) || !slices.EqualFunc(run, want, slices.Equal[[]int]) {
		t.Fatalf("SayRun %v, %d steps: %v %v, want %v", word, steps, run, ok, want)
	}
	var lengths []int
	for _, list := range want {
		lengths = append(lengths, len(list))
	}
	got, ok := impl.LengthsOfSay(word, steps)
	if ok != (want != nil) || !slices.Equal(got, lengths) {
		t.Fatalf("LengthsOfSay %v, %d steps: %v %v, want %v", word, steps, got, ok, lengths)
	}
}

func checkTelling(t *testing.T, list []int) {
	t.Helper()
	counts, ok := impl.TellCounts(list)
	checkSaid(t, "TellCounts", list, counts, ok, tellingOf(list))
	if is, ok := impl.IsSelfTelling(list); is != isToldByAll(list) || !ok {
		t.Fatalf("IsSelfTelling %v: %v %v", list, is, ok)
	}
}

func checkSelfTelling(t *testing.T, n int, want [][]int) {
	t.Helper()
	lists, ok := impl.SelfTelling(n)
	if !ok || !slices.EqualFunc(lists, want, slices.Equal[[]int]) {
		t.Errorf("SelfTelling %d: %v %v, want %v", n, lists, ok, want)
	}
}

func checkPeriod(t *testing.T, a int, n int, base int, before int, again int) {
	t.Helper()
	gotBefore, gotAgain, ok := impl.PeriodOf(a, n, base)
	if gotBefore != before || gotAgain != again || !ok {
		t.Fatalf("PeriodOf %d / %d in base %d: %d %d %v, want %d %d", a, n, base, gotBefore, gotAgain, ok, before, again)
	}
}

func checkDigitsOf(t *testing.T, name string, a int, n int, base int, got []int, ok bool, want []int) {
	t.Helper()
	if !ok || !slices.Equal(got, want) {
		t.Fatalf("%s of %d / %d in base %d: %v %v, want %v", name, a, n, base, got, ok, want)
	}
}

func checkHalves(t *testing.T, a int, p int, base int, first []int, second []int, wok bool) {
	t.Helper()
	gotFirst, gotSecond, ok := impl.HalvesOf(a, p, base)
	if ok != wok || !slices.Equal(gotFirst, first) || !slices.Equal(gotSecond, second) {
		t.Fatalf("HalvesOf %d / %d in base %d: %v %v %v, want %v %v %v", a, p, base, gotFirst, gotSecond, ok, first, second, wok)
	}
}

// checkFraction tells the period by what is left, and the halves where there are some.
func checkFraction(t *testing.T, a int, n int, base int) {
	t.Helper()
	before, again := periodByLeft(a, n, base)
	checkPeriod(t, a, n, base, before, again)
	digits, ok := impl.FractionDigits(a, n, base, mostFractionDigits)
	checkDigitsOf(t, "FractionDigits", a, n, base, digits, ok, fractionByBig(a, n, base, mostFractionDigits))
	repetend, ok := impl.RepetendOf(a, n, base)
	if again > mostSaid {
		checkNoList(t, "RepetendOf", repetend, ok)
		checkHalves(t, a, n, base, nil, nil, false)
		return
	}
	want := fractionByBig(a, n, base, before+again)[before:]
	checkDigitsOf(t, "RepetendOf", a, n, base, repetend, ok, want)
	if a > 0 && isPrimeOf(n) && base%n != 0 && again%2 == 0 {
		checkHalves(t, a, n, base, want[:again/2], want[again/2:], true)
	} else {
		checkHalves(t, a, n, base, nil, nil, false)
	}
}

func TestLimitsOfTellingAreThoseOfTheDocument(t *testing.T) {
	if impl.MaxSaid != mostSaid || impl.MaxFraction != mostFraction {
		t.Error(impl.MaxSaid, impl.MaxFraction)
	}
}

func TestExampleOfTelling(t *testing.T) {
	said, ok := impl.SayWord([]int{1, 1, 2})
	checkSaid(t, "SayWord", []int{1, 1, 2}, said, ok, []int{2, 1, 1, 2})
	unsaid, ok := impl.UnsayWord([]int{2, 1, 1, 2})
	checkSaid(t, "UnsayWord", []int{2, 1, 1, 2}, unsaid, ok, []int{1, 1, 2})
	checkSelfTelling(t, 4, [][]int{{1, 2, 1, 0}, {2, 0, 2, 0}})
	checkPeriod(t, 1, 6, 10, 1, 1)
	digits, ok := impl.FractionDigits(1, 6, 10, 4)
	checkDigitsOf(t, "FractionDigits", 1, 6, 10, digits, ok, []int{1, 6, 6, 6})
	repetend, ok := impl.RepetendOf(1, 6, 10)
	checkDigitsOf(t, "RepetendOf", 1, 6, 10, repetend, ok, []int{6})
	cyclic, ok := impl.CyclicOf(7, 10)
	checkDigitsOf(t, "CyclicOf", 1, 7, 10, cyclic, ok, []int{1, 4, 2, 8, 5, 7})
	checkHalves(t, 1, 7, 10, []int{1, 4, 2}, []int{8, 5, 7}, true)
	turns, ok := impl.TurnsOf(7, 10)
	checkNumbers(t, "TurnsOf", 10, 7, turns, ok, []int{0, 2, 1, 4, 5, 3})
}

func TestListsSayThemselves(t *testing.T) {
	for _, word := range wordsToSay() {
		checkSaying(t, word)
	}
}

// Each list of numbers in 1..3 of up to 7 numbers is unsaid, or tells a number twice in a row, or is of an odd length.
func TestUnsaidLists(t *testing.T) {
	for _, word := range wordsToSay() {
		checkUnsaying(t, word)
	}
}

// What is said is not the list itself, but for the empty one and 2 2.
func TestListsThatSayThemselvesAgain(t *testing.T) {
	for _, word := range wordsToSay() {
		said, _ := impl.SayWord(word)
		if slices.Equal(said, word) != (len(word) == 0 || slices.Equal(word, []int{2, 2})) {
			t.Errorf("%v says %v", word, said)
		}
	}
}

func TestSayRuns(t *testing.T) {
	for _, word := range wordsToSay() {
		for _, steps := range []int{0, 1, 2, 7} {
			checkSayRun(t, word, steps, sayRunOf(word, steps))
		}
	}
	for _, word := range [][]int{nil, {1}, {2}, {3}, {9}, {2, 2}, {1, 1, 2}, {3, 1, 1, 3}, slices.Repeat([]int{7}, 9)} {
		for steps := range mostSaySteps + 1 {
			checkSayRun(t, word, steps, sayRunOf(word, steps))
		}
	}
}

func TestRunOfOneIsTold(t *testing.T) {
	checkSayRun(t, []int{1}, 5, [][]int{{1}, {1, 1}, {2, 1}, {1, 2, 1, 1}, {1, 1, 1, 2, 2, 1}, {3, 1, 2, 2, 1, 1}})
	lengths, ok := impl.LengthsOfSay([]int{1}, 19)
	checkNumbers(t, "LengthsOfSay", 0, 1, lengths, ok, []int{1, 2, 2, 4, 6, 6, 8, 10, 14, 20, 26, 34, 46, 62, 78, 102, 134, 176, 226, 302})
}

func TestListsTellTheirNumbers(t *testing.T) {
	for length := 1; length <= 5; length++ {
		for _, list := range allLists(length, -1, length+1) {
			checkTelling(t, list)
		}
	}
	for _, list := range listsWithSum(8, 8) {
		checkTelling(t, list)
	}
}

func TestAllSelfTellingLists(t *testing.T) {
	for n := 1; n <= 6; n++ {
		checkSelfTelling(t, n, slices.DeleteFunc(allLists(n, 0, n), func(list []int) bool { return !isToldByAll(list) }))
	}
	// The numbers of such a list make n together, as they count its numbers.
	for n := 7; n <= mostSelfTelling; n++ {
		checkSelfTelling(t, n, slices.DeleteFunc(listsWithSum(n, n), func(list []int) bool { return !isToldByAll(list) }))
	}
}

func TestOrders(t *testing.T) {
	for n := 1; n <= mostFraction; n++ {
		powers := powersToTry(n)
		for _, base := range bases {
			want, wok := 0, !haveCommonDivisor(n, base)
			if wok {
				want = leastPower(powers, n, base)
			}
			checkInts(t, n, base, []wantInt{pair(impl.OrderOf(n, base)).is("OrderOf", want, wok)})
		}
	}
}

func TestOrdersAreTold(t *testing.T) {
	for n, want := range map[int]int{1: 1, 3: 1, 7: 6, 9: 1, 11: 2, 13: 6, 17: 16, 27: 3, 37: 3, 41: 5, 49: 42, 81: 9, 101: 4, 271: 5, 1999: 999} {
		checkInts(t, n, 10, []wantInt{pair(impl.OrderOf(n, 10)).is("OrderOf", want, true)})
	}
}

func TestFractions(t *testing.T) {
	for _, base := range bases {
		for _, n := range fractionsToTry() {
			for _, a := range numeratorsToTry(n) {
				checkFraction(t, a, n, base)
			}
		}
	}
}

func TestPeriodsAreOrders(t *testing.T) {
	for _, base := range bases {
		for n := 1; n <= mostFraction; n += 1 + n/50 {
			for _, a := range numeratorsToTry(n) {
				if haveCommonDivisor(a, n) || haveCommonDivisor(base, n) {
					continue
				}
				order, ok := impl.OrderOf(n, base)
				if !ok {
					t.Fatal("OrderOf fails", n, base)
				}
				checkPeriod(t, a, n, base, 0, order)
			}
		}
	}
}

// A fraction is told by the digits before its period and those in it.
func TestDigitsTellTheirFractions(t *testing.T) {
	for _, base := range bases {
		for n := 1; n <= 120; n++ {
			for _, a := range numeratorsToTry(n) {
				before, again, ok := impl.PeriodOf(a, n, base)
				digits, digitsOK := impl.FractionDigits(a, n, base, before)
				repetend, repetendOK := impl.RepetendOf(a, n, base)
				if !ok || !digitsOK || !repetendOK || len(repetend) != again {
					t.Fatalf("%d / %d in base %d: %d %d %v, %v %v, %v %v", a, n, base, before, again, ok, digits, digitsOK, repetend, repetendOK)
				}
				if value := valueByDigits(digits, repetend, base); value.Cmp(big.NewRat(int64(a), int64(n))) != 0 {
					t.Fatalf("%d / %d in base %d: %v is the value of %v and %v", a, n, base, value, digits, repetend)
				}
			}
		}
	}
}

// Digits with the same index make base - 1 together.
func TestHalvesMakeTheGreatestDigits(t *testing.T) {
	for _, base := range bases {
		halves := 0
		for p := 2; p <= mostFraction; p++ {
			if p > 60 && p%23 != 1 && p < mostFraction-30 {
				continue
			}
			for _, a := range []int{1, 2, p / 2, p - 1} {
				first, second, ok := impl.HalvesOf(a, p, base)
				if !ok {
					checkHalves(t, a, p, base, nil, nil, false)
					continue
				}
				halves++
				if len(first) != len(second) || len(first) == 0 {
					t.Fatalf("HalvesOf %d / %d in base %d: %v %v", a, p, base, first, second)
				}
				for i := range first {
					if first[i]+second[i] != base-1 {
						t.Fatalf("HalvesOf %d / %d in base %d: %v %v", a, p, base, first, second)
					}
				}
			}
		}
		if halves == 0 {
			t.Error("no halves in base", base)
		}
	}
}

func TestFullPrimes(t *testing.T) {
	for _, base := range bases {
		all := fullPrimesOf(base, mostFullPrime)
		for most := range mostFullPrime + 1 {
			primes, ok := impl.FullPrimes(base, most)
			checkNumbers(t, "FullPrimes", base, most, primes, ok, upTo(all, most))
		}
	}
	primes, ok := impl.FullPrimes(10, 100)
	checkNumbers(t, "FullPrimes", 10, 100, primes, ok, []int{7, 17, 19, 23, 29, 47, 59, 61, 97})
}

func TestCyclicNumbersAndTheirTurns(t *testing.T) {
	for _, base := range bases {
		for p := range mostFullPrime + 1 {
			cyclic, ok := impl.CyclicOf(p, base)
			turns, turnsOK := impl.TurnsOf(p, base)
			if !isFullOf(p, base) {
				checkNoList(t, "CyclicOf", cyclic, ok)
				checkNoList(t, "TurnsOf", turns, turnsOK)
				continue
			}
			checkDigitsOf(t, "CyclicOf", 1, p, base, cyclic, ok, fractionByBig(1, p, base, p-1))
			checkNumbers(t, "TurnsOf", base, p, turns, turnsOK, turnsByTurning(p, base))
		}
	}
}

// The cyclic number turned is each other repetend.
func TestTurnedCyclicNumbers(t *testing.T) {
	for _, base := range bases {
		for _, p := range upTo(fullPrimesOf(base, mostFullPrime), 60) {
			cyclic, _ := impl.CyclicOf(p, base)
			turns, _ := impl.TurnsOf(p, base)
			for i, turn := range turns {
				repetend, ok := impl.RepetendOf(i+1, p, base)
				checkDigitsOf(t, "RepetendOf", i+1, p, base, repetend, ok, slices.Concat(cyclic[turn:], cyclic[:turn]))
			}
		}
	}
}
