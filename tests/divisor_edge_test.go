package tests

import (
	"slices"
	"testing"

	"loop.example/g01151/impl"
)

func TestDivisorsOfOne(t *testing.T) {
	factors, ok := impl.PrimeFactors(1)
	checkNumbers(t, "PrimeFactors", 0, 1, factors, ok, nil)
	checkInts(t, 1, 0, []wantInt{
		pair(impl.SumOfDivisors(1)).is("SumOfDivisors", 1, true),
		pair(impl.CountDivisors(1)).is("CountDivisors", 1, true),
		pair(impl.ProperSum(1)).is("ProperSum", 0, true),
		pair(impl.KindOfNumber(1)).is("KindOfNumber", -1, true),
		pair(impl.PartnerOf(1)).is("PartnerOf", 0, false),
	})
	checkEnd(t, 1, 1, 0, nil)
	run, ok := impl.ProperRun(1, mostTerms)
	checkNumbers(t, "ProperRun", 0, 1, run, ok, []int{1})
}

func TestDivisorsOfPrimeNumbers(t *testing.T) {
	for _, p := range []int{2, 3, 5, 7, 9973, 31601, 31607, 31627, 499999993, 999999929, 999999937} {
		if !isPrimeOf(p) {
			t.Fatal("no prime number", p)
		}
		factors, ok := impl.PrimeFactors(p)
		checkNumbers(t, "PrimeFactors", 0, p, factors, ok, []int{p})
		checkDivided(t, p, 2, 1)
		checkInts(t, p, 0, []wantInt{pair(impl.PartnerOf(p)).is("PartnerOf", 0, false)})
		checkEnd(t, p, 2, 0, nil)
	}
}

// The proper sum of a power of 2 is one less, and that of others is less than the half.
func TestDivisorsOfPowersOfPrimes(t *testing.T) {
	for _, p := range []int{2, 3, 5, 7, 11, 31, 997, 31607} {
		sum := 1
		for power, times := p, 1; power <= mostDivided; power, times = power*p, times+1 {
			factors, ok := impl.PrimeFactors(power)
			checkNumbers(t, "PrimeFactors", 0, power, factors, ok, slices.Repeat([]int{p}, times))
			checkDivided(t, power, times+1, sum)
			checkInts(t, power, 0, []wantInt{pair(impl.KindOfNumber(power)).is("KindOfNumber", -1, true)})
			sum += power
		}
	}
}

// Only squares have an odd number of divisors, as each root is counted once.
func TestDivisorsOfSquares(t *testing.T) {
	for root := 1; root*root <= mostDivided; root = root*5/4 + 1 {
		for _, n := range []int{root * root, root*root + 1, root * (root + 1)} {
			count, ok := impl.CountDivisors(n)
			if !ok || (count%2 == 1) != (n == root*root) {
				t.Errorf("CountDivisors of %d: %d %v", n, count, ok)
			}
			checkDivided(t, n, len(divisorsOf(n)), properSumOf(n))
		}
	}
}

func TestProductsOfTwoGreatPrimes(t *testing.T) {
	for _, p := range []int{31583, 31601, 31607} {
		for _, q := range []int{31607, 31627} {
			n := p * q
			if n > mostDivided || !isPrimeOf(p) || !isPrimeOf(q) {
				t.Fatal("no such product", p, q)
			}
			factors, ok := impl.PrimeFactors(n)
			checkNumbers(t, "PrimeFactors", 0, n, factors, ok, []int{p, q})
			if p == q {
				checkDivided(t, n, 3, p+1)
			} else {
				checkDivided(t, n, 4, p+q+1)
			}
		}
	}
}

func TestTheGreatestDividedNumber(t *testing.T) {
	const n = mostDivided
	factors, ok := impl.PrimeFactors(n)
	checkNumbers(t, "PrimeFactors", 0, n, factors, ok, []int{2, 2, 2, 2, 2, 2, 2, 2, 2, 5, 5, 5, 5, 5, 5, 5, 5, 5})
	checkInts(t, n, 0, []wantInt{
		pair(impl.SumOfDivisors(n)).is("SumOfDivisors", 1023*2441406, true),
		pair(impl.CountDivisors(n)).is("CountDivisors", 100, true),
		pair(impl.ProperSum(n)).is("ProperSum", 1023*2441406-n, true), // greater than the limit
		pair(impl.KindOfNumber(n)).is("KindOfNumber", 1, true),
		pair(impl.PartnerOf(n)).is("PartnerOf", 0, false),
	})
	checkEnd(t, n, 1, 4, nil)
	checkNothingOfDivisors(t, n+1)
	checkNothingOfDivisors(t, 0)
	checkNothingOfDivisors(t, -1)
	checkNothingOfDivisors(t, -6)
	checkNothingOfDivisors(t, -n)
}

func TestPoorPerfectAndRichNumbers(t *testing.T) {
	for kind, numbers := range map[int][]int{
		0:  {6, 28, 496, 8128, 33550336},
		-1: {1, 2, 3, 4, 5, 7, 8, 9, 10, 11, 14, 16, 27, 29, 284, 495, 497, 8127, 8129, 33550334, 33550337, 536870912, 999999937},
		1:  {12, 18, 20, 24, 30, 56, 220, 945, 992, 1575, 5775, 33550335, 2 * 8128, 2 * 33550336, 999999996},
	} {
		for _, n := range numbers {
			checkInts(t, n, 0, []wantInt{pair(impl.KindOfNumber(n)).is("KindOfNumber", kind, true)})
		}
	}
	// A multiple of a perfect number is rich, and a divisor of one is poor.
	for _, perfect := range []int{6, 28, 496, 8128} {
		for factor := 2; factor <= 50; factor++ {
			checkInts(t, factor*perfect, 0, []wantInt{pair(impl.KindOfNumber(factor*perfect)).is("KindOfNumber", 1, true)})
		}
		for _, d := range divisorsOf(perfect) {
			if d < perfect {
				checkInts(t, d, 0, []wantInt{pair(impl.KindOfNumber(d)).is("KindOfNumber", -1, true)})
			}
		}
	}
}

func TestRunsToPerfectNumbers(t *testing.T) {
	for _, n := range []int{6, 28, 496, 8128, 33550336} {
		checkEnd(t, n, 1, 1, []int{n})
		checkInts(t, n, 0, []wantInt{pair(impl.PartnerOf(n)).is("PartnerOf", 0, false)}) // it is not another number
	}
	checkEnd(t, 25, 2, 1, []int{6})
	checkEnd(t, 95, 3, 1, []int{6}) // over 25
	checkEnd(t, 652, 2, 1, []int{496})
}

func TestRunsToPartners(t *testing.T) {
	checkEnd(t, 220, 2, 2, []int{220, 284})
	checkEnd(t, 284, 2, 2, []int{220, 284}) // the circle begins with the least number, not with the first one
	checkEnd(t, 562, 3, 2, []int{220, 284})
	checkEnd(t, 1184, 2, 2, []int{1184, 1210})
	checkEnd(t, 8832, 58, 2, []int{1184, 1210})
	run, ok := impl.ProperRun(562, mostTerms)
	checkNumbers(t, "ProperRun", 0, 562, run, ok, []int{562, 284, 220})
	for n, want := range map[int]int{220: 284, 284: 220, 1184: 1210, 1210: 1184, 2620: 2924, 63020: 76084, 76084: 63020, 9363584: 9437056} {
		checkInts(t, n, 0, []wantInt{pair(impl.PartnerOf(n)).is("PartnerOf", want, true)})
	}
	for _, n := range []int{2, 4, 12, 219, 221, 283, 285, 562, 1064, 276, 12496, 14264, 14316, 1264460} {
		checkInts(t, n, 0, []wantInt{pair(impl.PartnerOf(n)).is("PartnerOf", 0, false)}) // also of numbers that only lead to partners
	}
}

func TestRunsToLongerCircles(t *testing.T) {
	five := []int{12496, 14288, 15472, 14536, 14264}
	for _, n := range five {
		checkEnd(t, n, 5, 3, five)
	}
	checkEnd(t, 9464, 6, 3, five)
	four := []int{1264460, 1547860, 1727636, 1305184}
	for _, n := range four {
		checkEnd(t, n, 4, 3, four)
	}
	checkEnd(t, 498215416, 4, 3, []int{498215416, 506040584, 583014136, 510137384})
	long := walkOfSums(14316, mostTerms).numbers
	if len(long) != 28 || slices.Min(long) != 14316 {
		t.Fatal("another circle", long)
	}
	for _, n := range long {
		checkEnd(t, n, 28, 3, long)
	}
	checkEnd(t, 7524, 29, 3, long)
}

// A number or a partner beyond the limit is not in a run: so circles that go beyond it are none.
func TestRunsBeyondTheLimit(t *testing.T) {
	for n, sum := range map[int]int{905196776: 1013228824, 962951312: 1003172848, 992776995: 1008990045, 994945490: 1331936326} {
		if properSumOf(n) != sum || properSumOf(sum) != n {
			t.Fatal("no partners", n, sum)
		}
		checkInts(t, n, 0, []wantInt{
			pair(impl.ProperSum(n)).is("ProperSum", sum, true),
			pair(impl.PartnerOf(n)).is("PartnerOf", 0, false),
		})
		checkEnd(t, n, 1, 4, nil)
		checkNothingOfDivisors(t, sum)
	}
	checkEnd(t, 805984760, 1, 4, nil) // one of nine numbers that come back, the others of which are greater
	// No proper sum of a number up to the limit is the limit or one more: these come next to it.
	checkInts(t, 0, 0, []wantInt{
		pair(impl.ProperSum(616576842)).is("ProperSum", mostDivided-10, true),
		pair(impl.ProperSum(674196990)).is("ProperSum", mostDivided+2, true),
	})
	checkEnd(t, 674196990, 1, 4, nil)
	run, ok := impl.ProperRun(616576842, 2)
	checkNumbers(t, "ProperRun", 0, 616576842, run, ok, []int{616576842, mostDivided - 10})
	checkEnd(t, 616576842, 2, 4, nil) // it goes on to a greater one
}

// Their runs have one number less than MaxTerms, as many, and one more.
func TestRunsOfMaxTerms(t *testing.T) {
	for n, length := range map[int]int{1656: 59, 864: 60, 2436: 60} {
		if walk := walkOfSums(n, mostTerms+1); len(walk.numbers) != length || walk.end() != 0 {
			t.Fatal("another run", n, walk.numbers)
		}
		checkEnd(t, n, length, 0, nil)
	}
	for n, length := range map[int]int{702: 59, 14556: 60, 15788: 60} {
		if walk := walkOfSums(n, mostTerms+1); len(walk.numbers) != length || walk.end() != 4 {
			t.Fatal("another run", n, walk.numbers)
		}
		checkEnd(t, n, length, 4, nil)
	}
	for _, n := range []int{3276, 4060, 8964, 9468} {
		walk := walkOfSums(n, mostTerms+1)
		end := walk.end()
		if len(walk.numbers) != mostTerms+1 || end != 0 && end != 4 {
			t.Fatal("another run", n, walk.numbers)
		}
		checkEnd(t, n, mostTerms+1, end, nil) // never enough
	}
}

func TestTermsAtTheLimits(t *testing.T) {
	for n, end := range map[int]int{1: 0, 2: 5, 6: 1, 12: 5, 220: 5, 12496: 5, 138: 5, mostDivided: 4} {
		run, ok := impl.ProperRun(n, 1)
		checkNumbers(t, "ProperRun", 1, n, run, ok, []int{n})
		checkInts(t, n, 1, []wantInt{pair(impl.EndOfRun(n, 1)).is("EndOfRun", end, true)})
	}
	walk := walkOfSums(138, mostTerms)
	if len(walk.numbers) != mostTerms {
		t.Fatal("another run", walk.numbers)
	}
	checkRun(t, 138, mostTerms, walk)
	checkNoRunOfSums(t, 138, mostTerms+1)
	checkNoRunOfSums(t, 138, 0)
	checkNoRunOfSums(t, 6, mostTerms+1)
	checkNoRunOfSums(t, 220, 0)
}

func TestMostOfPairsAtTheLimits(t *testing.T) {
	all := [][]int{{220, 284}, {1184, 1210}, {2620, 2924}, {5020, 5564}, {6232, 6368}}
	for most, count := range map[int]int{0: 0, 1: 0, 219: 0, 220: 1, 221: 1, 283: 1, 284: 1, 1183: 1, 1184: 2, 1210: 2, 6231: 4, 6232: 5, 9999: 5, mostPaired: 5} {
		checkPairs(t, most, all[:count])
	}
	for _, most := range []int{-1, mostPaired + 1} {
		checkNoPairs(t, most)
	}
}

func TestPowersOfPerfectNumbersAtTheLimits(t *testing.T) {
	for p, want := range map[int]int{2: 6, 3: 28, 5: 496, 7: 8128, 13: 33550336} {
		checkInts(t, p, 0, []wantInt{pair(impl.EvenPerfect(p)).is("EvenPerfect", want, true)})
	}
	for _, p := range []int{1, 0, -1, 4, 6, 8, 9, 10, 11, 12, 14, 15, 16, 17, 19} { // 2047 is 23 times 89; 17 and 19 would make perfect numbers
		checkInts(t, p, 0, []wantInt{pair(impl.EvenPerfect(p)).is("EvenPerfect", 0, false)})
	}
}

func TestThabitPairsAtTheLimits(t *testing.T) {
	checkThabit(t, 2, 220, 284, true)
	checkThabit(t, 4, 17296, 18416, true)
	checkThabit(t, 7, 9363584, 9437056, true)
	for _, k := range []int{0, 1, 3, 5, 6, 8, 9, -1} { // 287 is 7 times 41, for k = 3
		checkThabit(t, k, 0, 0, false)
	}
}

func TestSourcesAtTheLimits(t *testing.T) {
	for n, want := range map[int][]int{
		2:  nil,
		3:  {4},
		4:  {9},
		5:  nil,
		6:  {6, 25},
		7:  {8},
		8:  {10, 49},
		52: nil,
		88: nil,
		96: nil,
		98: {97 * 97}, // no source of 98 can be greater
	} {
		sources, ok := impl.SourcesOf(n)
		checkNumbers(t, "SourcesOf", 0, n, sources, ok, want)
	}
	sources, ok := impl.SourcesOf(mostOfSource)
	if !ok || len(sources) == 0 || !slices.IsSorted(sources) {
		t.Error("SourcesOf", sources, ok)
	}
	for _, m := range sources {
		checkInts(t, m, 0, []wantInt{pair(impl.ProperSum(m)).is("ProperSum", mostOfSource, true)})
	}
	for _, n := range []int{-1, 0, 1, mostOfSource + 1} {
		sources, ok := impl.SourcesOf(n)
		checkNoList(t, "SourcesOf", sources, ok)
	}
}

func TestMostOfNoSourcesAtTheLimits(t *testing.T) {
	all := []int{2, 5, 52, 88, 96}
	for most, count := range map[int]int{0: 0, 1: 0, 2: 1, 3: 1, 4: 1, 5: 2, 51: 2, 52: 3, 60: 3, 87: 3, 88: 4, 95: 4, 96: 5, 99: 5, mostOfSource: 5} {
		without, ok := impl.NoSources(most)
		checkNumbers(t, "NoSources", 0, most, without, ok, all[:count])
	}
	for _, most := range []int{-1, mostOfSource + 1} {
		without, ok := impl.NoSources(most)
		checkNoList(t, "NoSources", without, ok)
	}
}
