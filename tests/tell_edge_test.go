package tests

import (
	"slices"
	"testing"

	"loop.example/g01151/impl"
)

// checkNotSaid takes a list that cannot be said, so that no run begins with it.
func checkNotSaid(t *testing.T, word []int) {
	t.Helper()
	said, ok := impl.SayWord(word)
	checkNoList(t, "SayWord", said, ok)
	for _, steps := range []int{0, 1, 2, mostSaySteps} {
		checkSayRun(t, word, steps, nil)
	}
}

func checkNotUnsaid(t *testing.T, word []int) {
	t.Helper()
	unsaid, ok := impl.UnsayWord(word)
	checkNoList(t, "UnsayWord", unsaid, ok)
}

func TestTheEmptyListSaid(t *testing.T) {
	for _, empty := range [][]int{nil, {}, make([]int, 0, 5)} {
		checkSaying(t, empty)
		checkUnsaying(t, empty)
		for steps := range mostSaySteps + 1 {
			checkSayRun(t, empty, steps, make([][]int, steps+1))
			lengths, ok := impl.LengthsOfSay(empty, steps)
			checkNumbers(t, "LengthsOfSay", 0, steps, lengths, ok, make([]int, steps+1))
		}
	}
}

func TestListsOfOneNumberSaid(t *testing.T) {
	for number := 1; number <= 9; number++ {
		word := []int{number}
		said, ok := impl.SayWord(word)
		checkSaid(t, "SayWord", word, said, ok, []int{1, number})
		checkNotUnsaid(t, word)
		checkSayRun(t, word, 0, [][]int{{number}})
		checkSayRun(t, word, 1, [][]int{{number}, {1, number}})
	}
}

func TestStretchesOfNineAndTenNumbers(t *testing.T) {
	for number := 1; number <= 9; number++ {
		other := number%9 + 1
		for _, around := range [][2][]int{{nil, nil}, {{other}, nil}, {nil, {other}}, {{other}, {other}}, {{other, other}, {other, number}}} {
			nine := slices.Concat(around[0], slices.Repeat([]int{number}, 9), around[1])
			checkSaying(t, nine)
			checkSayRun(t, nine, 1, [][]int{nine, saidOf(nine)})
			for _, length := range []int{10, 11, 16, 19, 100} {
				checkNotSaid(t, slices.Concat(around[0], slices.Repeat([]int{number}, length), around[1]))
			}
		}
	}
	said, ok := impl.SayWord(slices.Repeat([]int{4}, 9))
	checkSaid(t, "SayWord", nil, said, ok, []int{9, 4})
	// Told stretches of the same number would be longer, and are so still if nine numbers at most are in them.
	checkNotUnsaid(t, []int{9, 4, 1, 4})
	checkNotUnsaid(t, []int{5, 4, 4, 4})
	checkNotUnsaid(t, []int{5, 4, 5, 4})
}

func TestNumbersZeroOneNineAndTen(t *testing.T) {
	for _, number := range []int{1, 9} {
		for _, word := range [][]int{{number}, {number, 5}, {5, number}, {5, number, 5}, {number, number, number}} {
			checkSaying(t, word)
		}
		unsaid, ok := impl.UnsayWord([]int{number, 5})
		checkSaid(t, "UnsayWord", []int{number, 5}, unsaid, ok, slices.Repeat([]int{5}, number))
		unsaid, ok = impl.UnsayWord([]int{5, number})
		checkSaid(t, "UnsayWord", []int{5, number}, unsaid, ok, slices.Repeat([]int{number}, 5))
	}
	for _, number := range []int{0, 10, -1} {
		for _, word := range [][]int{{number}, {number, 5}, {5, number}, {5, number, 5}, {5, 5, 5, number}, {number, number}, {2, number, 3, 1}, {number, 2, 3, 1}, {3, 1, number, 2}} {
			checkNotSaid(t, word)
			checkNotUnsaid(t, word)
		}
	}
}

func TestListsOfJustTheMostNumbersSaid(t *testing.T) {
	stretches := slices.Repeat([]int{1, 1, 2, 2}, mostSaid/4)
	said, ok := impl.SayWord(stretches)
	checkSaid(t, "SayWord", stretches, said, ok, slices.Repeat([]int{2, 1, 2, 2}, mostSaid/4))
	checkSayRun(t, stretches, 1, [][]int{stretches, said})
	nines := slices.Repeat([]int{7, 7, 7, 7, 7, 7, 7, 7, 7, 8}, mostSaid/10)
	said, ok = impl.SayWord(nines)
	checkSaid(t, "SayWord", nines, said, ok, slices.Repeat([]int{9, 7, 1, 8}, mostSaid/10))
	for _, list := range [][]int{stretches, nines} {
		checkSayRun(t, list, 0, [][]int{list})
		checkNotSaid(t, append(slices.Clone(list), 3))
		checkNotSaid(t, append([]int{3}, list...))
		checkNotSaid(t, append(slices.Clone(list), list[mostSaid-1]))
		checkNotSaid(t, slices.Concat(list, list))
	}
	// Many numbers are said, but what says them is too long.
	most := zigzag(mostSaid)
	said, ok = impl.SayWord(most)
	checkNoList(t, "SayWord", said, ok)
	checkSayRun(t, most, 0, [][]int{most})
	checkSayRun(t, most, 1, nil)
	checkNotSaid(t, zigzag(mostSaid+1))
}

func TestSaidListsOfJustTheMostNumbers(t *testing.T) {
	just := zigzag(mostSaid / 2)
	said, ok := impl.SayWord(just)
	checkSaid(t, "SayWord", just, said, ok, saidOf(just))
	if len(said) != mostSaid {
		t.Error("length", len(said))
	}
	checkSayRun(t, just, 1, [][]int{just, said})
	for _, longer := range [][]int{zigzag(mostSaid/2 + 1), append(zigzag(mostSaid/2), 9), append([]int{7, 7}, just...)} {
		said, ok = impl.SayWord(longer)
		checkNoList(t, "SayWord", said, ok)
		checkSayRun(t, longer, 0, [][]int{longer})
		checkSayRun(t, longer, 1, nil)
		checkSayRun(t, longer, 2, nil)
	}
	// One number more in a stretch makes what is said no longer.
	same := append([]int{1}, just...)
	said, ok = impl.SayWord(same)
	checkSaid(t, "SayWord", same, said, ok, append([]int{2, 1}, saidOf(just)[2:]...))
}

func TestUnsaidListsOfAnOddLength(t *testing.T) {
	for _, word := range [][]int{{1}, {9}, {1, 2, 1}, {2, 1, 1}, {1, 2, 1, 3, 1}, ones(3), zigzag(mostSaid - 1), slices.Concat([]int{1, 2, 1, 1}, []int{5})} {
		checkNotUnsaid(t, word)
	}
}

func TestUnsaidListsThatTellTheSameNumberTwice(t *testing.T) {
	for _, word := range [][]int{{1, 1, 1, 1}, {1, 2, 1, 2}, {2, 3, 4, 3}, {1, 5, 2, 5, 1, 4}, {1, 4, 1, 5, 2, 5}, {1, 5, 1, 4, 3, 4, 1, 5}, {8, 3, 1, 3}, {8, 3, 2, 3}, {9, 3, 9, 3}, {2, 2, 2, 2}} {
		checkNotUnsaid(t, word)
	}
	for _, word := range [][]int{{1, 5, 2, 4, 1, 5}, {3, 3, 3, 4}, {4, 3, 3, 4}, {1, 1, 1, 2}, {2, 2}} {
		unsaid, ok := impl.UnsayWord(word)
		want, _ := unsaidOf(word)
		checkSaid(t, "UnsayWord", word, unsaid, ok, want)
		checkSaying(t, unsaid)
	}
}

func TestUnsaidListsOfJustTheMostNumbers(t *testing.T) {
	twos := slices.Repeat([]int{2, 1, 2, 2}, mostSaid/4) // says just the most numbers, and has as many itself
	nines := append(slices.Repeat([]int{9, 1, 9, 2}, 22), 4, 1)
	for _, word := range [][]int{twos, nines} {
		list, ok := impl.UnsayWord(word)
		want, _ := unsaidOf(word)
		checkSaid(t, "UnsayWord", word, list, ok, want)
		if len(list) != mostSaid {
			t.Error("length", len(list))
		}
		for place := 0; place < len(word); place += 2 {
			longer := slices.Clone(word)
			longer[place] = word[place] + 1
			if longer[place] <= 9 {
				checkNotUnsaid(t, longer)
			}
			shorter := slices.Clone(word)
			shorter[place] = word[place] - 1
			checkUnsaying(t, shorter)
		}
		checkNotUnsaid(t, append(slices.Clone(word), 1, 3))
	}
	checkNotUnsaid(t, slices.Repeat([]int{9, 1, 9, 2}, 23))
	checkNotUnsaid(t, slices.Repeat([]int{9, 1, 9, 2}, mostSaid/4))
	// Lists of ones and of a few numbers more than the most.
	checkUnsaying(t, slices.Repeat([]int{1, 1, 1, 2}, mostSaid/4))
	checkNotUnsaid(t, slices.Repeat([]int{1, 1, 1, 2}, mostSaid/4+1))
	checkNotUnsaid(t, append(slices.Repeat([]int{1, 1, 1, 2}, mostSaid/4), 1, 1))
}

func TestRunsOfNoAndOfTheMostSteps(t *testing.T) {
	checkSayRun(t, []int{2, 2}, 0, [][]int{{2, 2}})
	checkSayRun(t, []int{2, 2}, mostSaySteps, slices.Repeat([][]int{{2, 2}}, mostSaySteps+1))
	for _, word := range [][]int{nil, {2, 2}, {1}} {
		for _, steps := range []int{mostSaySteps + 1, -1} {
			checkSayRun(t, word, steps, nil)
		}
	}
	for _, word := range [][]int{{1}, {2}, {3}, {1, 1}, {9}} {
		steps := 0
		for sayRunOf(word, steps+1) != nil {
			steps++
		}
		checkSayRun(t, word, steps, sayRunOf(word, steps))
		for steps++; steps <= mostSaySteps; steps++ {
			checkSayRun(t, word, steps, nil)
		}
	}
}

// Only the list itself can have so long a stretch: the last one of a run is the list if there are no steps.
func TestRunsWhoseLastListHasALongStretch(t *testing.T) {
	for _, word := range [][]int{slices.Repeat([]int{1}, 10), append([]int{2}, slices.Repeat([]int{9}, 10)...), append(slices.Repeat([]int{3}, 10), 4), slices.Repeat([]int{6}, mostSaid)} {
		checkSayRun(t, word, 0, nil)
		checkSayRun(t, word[1:], 1, sayRunOf(word[1:], 1))
	}
	for _, word := range wordsToSay() {
		said := saidOf(word)
		if len(said) > 0 && slices.Max(stretchTimes(said)) > 3 {
			t.Error("a long stretch is said", word, said)
		}
	}
}

func TestSelfTellingListsOfOneNumber(t *testing.T) {
	for _, number := range []int{0, 1, 2, -1} {
		checkTelling(t, []int{number})
		if is, ok := impl.IsSelfTelling([]int{number}); is || !ok {
			t.Error(number, is, ok)
		}
	}
	counts, ok := impl.TellCounts([]int{0})
	checkSaid(t, "TellCounts", []int{0}, counts, ok, []int{1})
	counts, ok = impl.TellCounts([]int{1})
	checkSaid(t, "TellCounts", []int{1}, counts, ok, []int{0})
}

func TestSelfTellingListsOfTheMostNumbers(t *testing.T) {
	telling := []int{8, 2, 1, 0, 0, 0, 0, 0, 1, 0, 0, 0}
	if is, ok := impl.IsSelfTelling(telling); !is || !ok {
		t.Error(telling, is, ok)
	}
	counts, ok := impl.TellCounts(telling)
	checkSaid(t, "TellCounts", telling, counts, ok, telling)
	for place := range telling {
		for _, number := range []int{-1, -12, telling[place] + 1, 11, 12, 13, 1 << 40} {
			other := slices.Clone(telling)
			other[place] = number
			checkTelling(t, other)
			if is, ok := impl.IsSelfTelling(other); is || !ok {
				t.Error(other, is, ok)
			}
		}
	}
	for _, list := range [][]int{make([]int, 12), ones(12), {9, 2, 1, 0, 0, 0, 0, 0, 0, 1, 0, 0}, {12, 0, 0, 0, 0, 0, 0, 0, 0, 0, 0, 0}, {0, 1, 2, 3, 4, 5, 6, 7, 8, 9, 10, 11}, slices.Repeat([]int{11}, 12), slices.Repeat([]int{12}, 12), slices.Repeat([]int{-1}, 12)} {
		checkTelling(t, list)
	}
}

func TestSelfTellingListsOfOneMore(t *testing.T) {
	for _, list := range [][]int{{9, 2, 1, 0, 0, 0, 0, 0, 0, 1, 0, 0, 0}, make([]int, 13), ones(13), slices.Repeat([]int{-1}, 13), make([]int, 100), nil, {}} {
		checkNotTold(t, list)
	}
}

func TestSelfTellingListsAreTold(t *testing.T) {
	checkSelfTelling(t, 1, nil)
	checkSelfTelling(t, 2, nil)
	checkSelfTelling(t, 3, nil)
	checkSelfTelling(t, 4, [][]int{{1, 2, 1, 0}, {2, 0, 2, 0}})
	checkSelfTelling(t, 5, [][]int{{2, 1, 2, 0, 0}})
	checkSelfTelling(t, 6, nil)
	for n := 7; n <= mostSelfTelling; n++ {
		list := make([]int, n)
		list[0], list[1], list[2], list[n-4] = n-4, 2, 1, 1
		checkSelfTelling(t, n, [][]int{list})
	}
	for n := 1; n <= mostSelfTelling; n++ {
		lists, _ := impl.SelfTelling(n)
		for _, list := range lists {
			if is, ok := impl.IsSelfTelling(list); !is || !ok {
				t.Error(list, is, ok)
			}
		}
	}
}

func TestOrdersByOne(t *testing.T) {
	for _, base := range bases {
		checkInts(t, 1, base, []wantInt{pair(impl.OrderOf(1, base)).is("OrderOf", 1, true)})
		checkFraction(t, 0, 1, base)
		checkPeriod(t, 0, 1, base, 0, 1)
	}
}

func TestOrdersByNumbersWithACommonDivisor(t *testing.T) {
	for _, base := range bases {
		for _, n := range []int{base, 2 * base, 7 * base, base * base, 100 * base} {
			checkInts(t, n, base, []wantInt{pair(impl.OrderOf(n, base)).is("OrderOf", 0, false)})
			checkFraction(t, 1, n, base)
			checkFraction(t, n-1, n, base)
		}
	}
	for n, base := range map[int]int{2: 10, 5: 10, 15: 10, 3: 6, 33: 6, 14: 7, 1998: 16, 26: 13, 1995: 14} {
		checkInts(t, n, base, []wantInt{pair(impl.OrderOf(n, base)).is("OrderOf", 0, false)})
	}
}

func TestTheGreatestDenominator(t *testing.T) {
	for _, base := range bases {
		want, wok := 0, base%2 > 0 && base%5 > 0
		if wok {
			_, want = periodByLeft(1, mostFraction, base)
		}
		checkInts(t, mostFraction, base, []wantInt{pair(impl.OrderOf(mostFraction, base)).is("OrderOf", want, wok)})
		for _, a := range []int{0, 1, 1000, mostFraction - 1} {
			checkFraction(t, a, mostFraction, base)
		}
		checkNoDenominator(t, mostFraction+1, base)
	}
}

func TestNumeratorsAtTheLimits(t *testing.T) {
	for _, base := range bases {
		for _, n := range []int{1, 2, 3, 7, 10, 97, 400, 1999, mostFraction} {
			checkFraction(t, 0, n, base)
			checkPeriod(t, 0, n, base, 0, 1)
			repetend, ok := impl.RepetendOf(0, n, base)
			checkDigitsOf(t, "RepetendOf", 0, n, base, repetend, ok, []int{0})
			checkHalves(t, 0, n, base, nil, nil, false)
			checkFraction(t, n-1, n, base)
			checkNoFractionOf(t, n, n, base)
			checkNoFractionOf(t, n+1, n, base)
			checkNoFractionOf(t, -1, n, base)
		}
	}
}

func TestFractionsWhoseDigitsEnd(t *testing.T) {
	for _, c := range []struct{ a, n, base, before int }{
		{1, 2, 10, 1}, {1, 4, 10, 2}, {3, 8, 10, 3}, {1, 5, 10, 1}, {7, 20, 10, 2}, {1, 1000, 10, 3}, {500, 1000, 10, 1}, {1, 1024, 10, 10}, {1, 1024, 2, 10}, {1, 1024, 16, 3}, {1, 1024, 4, 5}, {1, 729, 3, 6}, {1, 2000, 10, 4}, {1, 16, 16, 1}, {3, 6, 10, 1}, {1, 1536, 12, 5},
	} {
		checkFraction(t, c.a, c.n, c.base)
		checkPeriod(t, c.a, c.n, c.base, c.before, 1)
		repetend, ok := impl.RepetendOf(c.a, c.n, c.base)
		checkDigitsOf(t, "RepetendOf", c.a, c.n, c.base, repetend, ok, []int{0})
	}
}

func TestFractionsWithAndWithoutDigitsBefore(t *testing.T) {
	for _, c := range []struct {
		a, n, base, before int
		again              []int
	}{
		{1, 3, 10, 0, []int{3}},
		{2, 3, 10, 0, []int{6}},
		{1, 6, 10, 1, []int{6}},
		{2, 6, 10, 0, []int{3}},
		{1, 12, 10, 2, []int{3}},
		{1, 14, 10, 1, []int{7, 1, 4, 2, 8, 5}},
		{1, 13, 10, 0, []int{0, 7, 6, 9, 2, 3}},
		{2, 13, 10, 0, []int{1, 5, 3, 8, 4, 6}},
		{1, 11, 10, 0, []int{0, 9}},
		{8, 9, 10, 0, []int{8}},
		{1, 99, 10, 0, []int{0, 1}},
		{1, 1990, 2, 1, nil},
		{1, 3, 2, 0, []int{0, 1}},
		{1, 10, 2, 1, []int{0, 0, 1, 1}},
		{14, 15, 16, 0, []int{14}},
		{1, 17, 16, 0, []int{0, 15}},
		{1, 1536, 10, 9, []int{6}},
		{3, 1536, 10, 9, []int{0}},
	} {
		checkFraction(t, c.a, c.n, c.base)
		before, again, ok := impl.PeriodOf(c.a, c.n, c.base)
		if before != c.before || !ok {
			t.Errorf("PeriodOf %d / %d in base %d: %d %d %v", c.a, c.n, c.base, before, again, ok)
		}
		if c.again != nil {
			repetend, ok := impl.RepetendOf(c.a, c.n, c.base)
			checkDigitsOf(t, "RepetendOf", c.a, c.n, c.base, repetend, ok, c.again)
		}
	}
}

func TestNoDigitsAndTheMostDigits(t *testing.T) {
	for _, base := range bases {
		for _, n := range []int{1, 2, 7, 12, 1999, mostFraction} {
			for _, a := range []int{0, n / 2, n - 1} {
				for k := range mostFractionDigits + 1 {
					digits, ok := impl.FractionDigits(a, n, base, k)
					checkDigitsOf(t, "FractionDigits", a, n, base, digits, ok, fractionByBig(a, n, base, mostFractionDigits)[:k])
				}
				checkNoDigitsOf(t, a, n, base, mostFractionDigits+1)
				checkNoDigitsOf(t, a, n, base, -1)
			}
		}
	}
}

// No period has one digit more than the most. 1883 has one with two more.
func TestPeriodsOfJustTheMostDigits(t *testing.T) {
	for _, base := range bases {
		for n := 1; n <= mostFraction; n++ {
			if _, again := periodByLeft(1, n, base); again == mostSaid+1 {
				t.Fatal("a period of one more", n, base)
			}
		}
	}
	for _, c := range []struct{ n, base, before, again int }{
		{401, 3, 0, mostSaid}, {1601, 2, 0, mostSaid}, {802, 3, 0, mostSaid}, {1203, 3, 1, mostSaid}, {1717, 7, 0, mostSaid}, {1201, 13, 0, mostSaid},
		{1883, 4, 0, 402}, {1613, 10, 0, 403}, {809, 2, 0, 404}, {1618, 2, 1, 404}, {1999, 3, 0, 1998}, {1997, 2, 0, 1996}, {787, 10, 0, 393},
	} {
		for _, a := range []int{1, 2, c.n - 1} {
			checkFraction(t, a, c.n, c.base)
		}
		checkPeriod(t, 1, c.n, c.base, c.before, c.again)
		repetend, ok := impl.RepetendOf(1, c.n, c.base)
		if ok != (c.again <= mostSaid) || ok && len(repetend) != c.again {
			t.Errorf("RepetendOf 1 / %d in base %d: %v %v", c.n, c.base, repetend, ok)
		}
	}
}

func TestHalvesOfOddAndEvenPeriods(t *testing.T) {
	checkHalves(t, 1, 13, 10, []int{0, 7, 6}, []int{9, 2, 3}, true)
	checkHalves(t, 1, 11, 10, []int{0}, []int{9}, true)
	checkHalves(t, 10, 11, 10, []int{9}, []int{0}, true)
	checkHalves(t, 1, 3, 2, []int{0}, []int{1}, true)
	checkHalves(t, 2, 3, 2, []int{1}, []int{0}, true)
	checkHalves(t, 1, 17, 16, []int{0}, []int{15}, true)
	for _, c := range [][3]int{{1, 3, 10}, {2, 3, 10}, {1, 37, 10}, {1, 41, 10}, {1, 31, 10}, {1, 7, 2}, {1, 7, 8}, {5, 271, 10}} { // odd ones
		checkHalves(t, c[0], c[1], c[2], nil, nil, false)
		checkFraction(t, c[0], c[1], c[2])
	}
	// Even ones of just the most digits, and of more.
	first, second, ok := impl.HalvesOf(1, 401, 3)
	if len(first) != mostSaid/2 || len(second) != mostSaid/2 || !ok {
		t.Error("halves of the most digits", first, second, ok)
	}
	checkHalves(t, 1, 809, 2, nil, nil, false)
	checkHalves(t, 1, 1997, 2, nil, nil, false)
}

func TestHalvesOfTwo(t *testing.T) {
	for _, base := range bases {
		for a := range 2 {
			checkHalves(t, a, 2, base, nil, nil, false)
			checkFraction(t, a, 2, base)
		}
	}
}

// Periods of 21 and 49, and of 1001, are even, but these are no prime numbers, though digits of some make base - 1 together.
func TestHalvesOfNumbersThatAreNotPrime(t *testing.T) {
	for _, n := range []int{1, 4, 9, 21, 33, 49, 77, 91, 99, 101 * 11, 1001, 2000} {
		if isPrimeOf(n) {
			t.Fatal("a prime number", n)
		}
		for _, base := range bases {
			checkHalves(t, 1, n, base, nil, nil, false)
			checkHalves(t, n-1, n, base, nil, nil, false)
		}
	}
}

func TestHalvesOfNumbersThatDivideTheBase(t *testing.T) {
	for _, base := range bases {
		for p := 2; p <= base; p++ {
			if base%p != 0 {
				continue
			}
			for a := range p {
				checkHalves(t, a, p, base, nil, nil, false)
			}
			checkInts(t, p, base, []wantInt{pair(impl.OrderOf(p, base)).is("OrderOf", 0, false)})
			checkNotCyclic(t, p, base)
		}
	}
}

func TestFullPrimesAtTheLimits(t *testing.T) {
	for _, base := range bases {
		for _, most := range []int{0, 1} {
			primes, ok := impl.FullPrimes(base, most)
			checkNumbers(t, "FullPrimes", base, most, primes, ok, nil)
		}
		primes, ok := impl.FullPrimes(base, 2)
		var want []int
		if base%2 == 1 {
			want = []int{2} // the order is 1, and so p - 1
		}
		checkNumbers(t, "FullPrimes", base, 2, primes, ok, want)
		primes, ok = impl.FullPrimes(base, mostFullPrime)
		checkNumbers(t, "FullPrimes", base, mostFullPrime, primes, ok, fullPrimesOf(base, mostFullPrime))
		checkNoFullPrimes(t, base, mostFullPrime+1)
		checkNoFullPrimes(t, base, -1)
	}
	// A square has no full prime but 2.
	for _, base := range []int{4, 9, 16} {
		primes, ok := impl.FullPrimes(base, mostFullPrime)
		checkNumbers(t, "FullPrimes", base, mostFullPrime, primes, ok, upTo([]int{2}, base%2*2))
	}
}

func TestCyclicNumbersOfTwo(t *testing.T) {
	for _, base := range bases {
		if base%2 == 0 {
			checkNotCyclic(t, 2, base)
			continue
		}
		cyclic, ok := impl.CyclicOf(2, base)
		checkDigitsOf(t, "CyclicOf", 1, 2, base, cyclic, ok, []int{base / 2})
		turns, ok := impl.TurnsOf(2, base)
		checkNumbers(t, "TurnsOf", base, 2, turns, ok, []int{0})
	}
}

func TestCyclicNumbersOfPrimesThatAreNotFull(t *testing.T) {
	for _, c := range [][2]int{{3, 10}, {11, 10}, {13, 10}, {37, 10}, {7, 2}, {7, 8}, {17, 2}, {3, 4}, {5, 9}, {283, 10}, {281, 10}, {2, 10}, {5, 10}, {293, 10}} {
		checkNotCyclic(t, c[0], c[1])
	}
	for _, p := range []int{0, 1, 4, 6, 9, 21, 49, 77, 299, 300} {
		for _, base := range bases {
			checkNotCyclic(t, p, base)
		}
	}
}

// These have the order p - 1, and are greater than the greatest one to be asked for.
func TestCyclicNumbersOfGreaterPrimes(t *testing.T) {
	for _, c := range [][2]int{{307, 5}, {307, 13}, {307, 14}, {313, 10}, {313, 15}, {317, 2}, {331, 3}, {337, 10}, {401, 3}, {1997, 2}} {
		if !isFullOf(c[0], c[1]) {
			t.Fatal("no full prime", c)
		}
		checkInts(t, c[0], c[1], []wantInt{pair(impl.OrderOf(c[0], c[1])).is("OrderOf", c[0]-1, true)})
		checkNotCyclic(t, c[0], c[1])
	}
	cyclic, ok := impl.CyclicOf(293, 2)
	checkDigitsOf(t, "CyclicOf", 1, 293, 2, cyclic, ok, fractionByBig(1, 293, 2, 292))
}
