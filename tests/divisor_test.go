package tests

import (
	"slices"
	"testing"

	"loop.example/g01151/impl"
)

// Promise 8: sums of divisors make runs, circles, pairs and perfect numbers.

// checkFactors needs no other factors, as a number has only one such list.
func checkFactors(t *testing.T, n int) {
	t.Helper()
	factors, ok := impl.PrimeFactors(n)
	product := 1
	for _, p := range factors {
		if !isPrimeOf(p) {
			t.Fatalf("PrimeFactors of %d: %v, but %d is no prime number", n, factors, p)
		}
		product *= p
	}
	if !ok || product != n || !slices.IsSorted(factors) {
		t.Fatalf("PrimeFactors of %d: %v %v", n, factors, ok)
	}
}

func checkDivided(t *testing.T, n int, divisors int, proper int) {
	t.Helper()
	checkFactors(t, n)
	checkInts(t, n, 0, []wantInt{
		pair(impl.CountDivisors(n)).is("CountDivisors", divisors, true),
		pair(impl.SumOfDivisors(n)).is("SumOfDivisors", proper+n, true),
		pair(impl.ProperSum(n)).is("ProperSum", proper, true),
		pair(impl.KindOfNumber(n)).is("KindOfNumber", kindBySum(n, proper), true),
	})
}

// checkRun asks for the run with most numbers, which the walk need not end with.
func checkRun(t *testing.T, n int, most int, walk properWalk) {
	t.Helper()
	walk = walk.first(most)
	run, ok := impl.ProperRun(n, most)
	checkNumbers(t, "ProperRun", n, most, run, ok, walk.numbers)
	checkInts(t, n, most, []wantInt{pair(impl.EndOfRun(n, most)).is("EndOfRun", walk.end(), true)})
	circle, ok := impl.CircleOf(n, most)
	if want := walk.circle(); len(want) > 0 {
		checkNumbers(t, "CircleOf", n, most, circle, ok, want)
	} else {
		checkNoList(t, "CircleOf", circle, ok)
	}
}

// checkEnd tells an end and its circle in numbers, and that one number less is not enough to tell.
func checkEnd(t *testing.T, n int, enough int, end int, circle []int) {
	t.Helper()
	for most := enough; most <= mostTerms; most++ {
		checkInts(t, n, most, []wantInt{pair(impl.EndOfRun(n, most)).is("EndOfRun", end, true)})
		got, ok := impl.CircleOf(n, most)
		if len(circle) > 0 {
			checkNumbers(t, "CircleOf", n, most, got, ok, circle)
		} else {
			checkNoList(t, "CircleOf", got, ok)
		}
		run, ok := impl.ProperRun(n, most)
		if len(run) != enough || !ok {
			t.Errorf("ProperRun of %d with %d: %v %v", n, most, run, ok)
		}
	}
	for most := 1; most < enough; most++ {
		checkInts(t, n, most, []wantInt{pair(impl.EndOfRun(n, most)).is("EndOfRun", 5, true)})
		got, ok := impl.CircleOf(n, most)
		checkNoList(t, "CircleOf", got, ok)
		run, ok := impl.ProperRun(n, most)
		if len(run) != most || !ok {
			t.Errorf("ProperRun of %d with %d: %v %v", n, most, run, ok)
		}
	}
}

func checkPairs(t *testing.T, most int, want [][]int) {
	t.Helper()
	pairs, ok := impl.PairsUpTo(most)
	if !ok || !slices.EqualFunc(pairs, want, slices.Equal[[]int]) {
		t.Fatalf("PairsUpTo %d: %v %v, want %v", most, pairs, ok, want)
	}
}

func checkThabit(t *testing.T, k int, a int, b int, wok bool) {
	t.Helper()
	gotA, gotB, ok := impl.ThabitPair(k)
	if gotA != a || gotB != b || ok != wok {
		t.Errorf("ThabitPair of %d: %d %d %v, want %d %d %v", k, gotA, gotB, ok, a, b, wok)
	}
}

func TestLimitsOfDivisorsAreThoseOfTheDocument(t *testing.T) {
	if impl.MaxDivided != mostDivided || impl.MaxTerms != mostTerms {
		t.Error(impl.MaxDivided, impl.MaxTerms)
	}
}

func TestExampleOfDivisors(t *testing.T) {
	checkInts(t, 12, 0, []wantInt{
		pair(impl.ProperSum(12)).is("ProperSum", 16, true),
		pair(impl.ProperSum(6)).is("ProperSum of 6", 6, true),
		pair(impl.KindOfNumber(12)).is("KindOfNumber", 1, true),
		pair(impl.KindOfNumber(6)).is("KindOfNumber of 6", 0, true),
		pair(impl.PartnerOf(220)).is("PartnerOf 220", 284, true),
	})
	checkEnd(t, 12, 7, 0, nil)
	run, ok := impl.ProperRun(12, mostTerms)
	checkNumbers(t, "ProperRun", 0, 12, run, ok, []int{12, 16, 15, 9, 4, 3, 1})
	checkThabit(t, 2, 220, 284, true)
	without, ok := impl.NoSources(60)
	checkNumbers(t, "NoSources", 0, 60, without, ok, []int{2, 5, 52})
}

func TestSumsOfAllNumbersUpTo(t *testing.T) {
	const most = 30000
	kinds := map[int]int{}
	for n, sum := range properSums(most) {
		if n == 0 {
			continue
		}
		checkDivided(t, n, len(divisorsOf(n)), sum)
		kinds[kindBySum(n, sum)]++
	}
	if kinds[0] != 4 || kinds[-1] == 0 || kinds[1] == 0 {
		t.Error("kinds", kinds)
	}
}

func TestSumsOfGreatNumbers(t *testing.T) {
	for _, n := range numbersToDivide() {
		checkDivided(t, n, len(divisorsOf(n)), properSumOf(n))
	}
}

func TestFactorsAreTold(t *testing.T) {
	for n, want := range map[int][]int{
		2:                 {2},
		12:                {2, 2, 3},
		1024:              {2, 2, 2, 2, 2, 2, 2, 2, 2, 2},
		2310:              {2, 3, 5, 7, 11},
		9 * 25 * 49:       {3, 3, 5, 5, 7, 7},
		2 * 499999993:     {2, 499999993},
		223092870:         {2, 3, 5, 7, 11, 13, 17, 19, 23},
		997 * 997 * 997:   {997, 997, 997},
		991 * 997 * 1009:  {991, 997, 1009},
		4 * 241 * 1000003: {2, 2, 241, 1000003},
	} {
		factors, ok := impl.PrimeFactors(n)
		checkNumbers(t, "PrimeFactors", 0, n, factors, ok, want)
	}
}

// Sums and counts of two numbers without a common divisor make those of their product.
func TestSumsOfProducts(t *testing.T) {
	for a := 1; a <= 60; a++ {
		for _, b := range []int{1, 997, 7919 * 11, 15485863} { // with prime factors of 11 and more
			if a%11 == 0 {
				continue
			}
			sumA, _ := impl.SumOfDivisors(a)
			sumB, _ := impl.SumOfDivisors(b)
			countA, _ := impl.CountDivisors(a)
			countB, _ := impl.CountDivisors(b)
			checkInts(t, a*b, 0, []wantInt{
				pair(impl.SumOfDivisors(a*b)).is("SumOfDivisors", sumA*sumB, true),
				pair(impl.CountDivisors(a*b)).is("CountDivisors", countA*countB, true),
			})
		}
	}
}

func TestRunsOfAllNumbersUpTo(t *testing.T) {
	ends := map[int]int{}
	for n := 1; n <= 1500; n++ {
		walk := walkOfSums(n, mostTerms)
		ends[walk.end()]++
		for most := 1; most <= mostTerms; most++ {
			checkRun(t, n, most, walk)
		}
	}
	for _, end := range []int{0, 1, 2, 4, 5} {
		if ends[end] == 0 {
			t.Error("no run ends with", end)
		}
	}
}

func TestRunsOfGreatNumbers(t *testing.T) {
	for _, n := range numbersToDivide() {
		walk := walkOfSums(n, mostTerms)
		for _, most := range []int{1, 2, 3, 5, 10, len(walk.numbers), mostTerms - 1, mostTerms} {
			checkRun(t, n, most, walk)
		}
	}
}

func TestPartnersOfAllNumbersUpTo(t *testing.T) {
	const most = 20000
	count := 0
	for n := 1; n <= most; n++ {
		want := properSumOf(n)
		wok := n > 1 && want != n && properSumOf(want) == n
		if !wok {
			want = 0
		} else {
			count++
		}
		checkInts(t, n, 0, []wantInt{pair(impl.PartnerOf(n)).is("PartnerOf", want, wok)})
	}
	if count != 16 {
		t.Error("partners", count)
	}
}

func TestPairs(t *testing.T) {
	pairs := pairsBySums(mostPaired)
	for most := 0; most <= mostPaired; most += 400 {
		some := 0
		for some < len(pairs) && pairs[some][0] <= most {
			some++
		}
		checkPairs(t, most, pairs[:some])
	}
	for _, p := range pairs {
		checkInts(t, p[0], p[1], []wantInt{
			pair(impl.PartnerOf(p[0])).is("PartnerOf the lesser one", p[1], true),
			pair(impl.PartnerOf(p[1])).is("PartnerOf the greater one", p[0], true),
		})
	}
}

func TestEvenPerfectNumbers(t *testing.T) {
	for p := leastPerfectP; p <= mostPerfectP; p++ {
		prime := powerOf(2, p) - 1
		if !isPrimeOf(prime) {
			checkInts(t, p, 0, []wantInt{pair(impl.EvenPerfect(p)).is("EvenPerfect", 0, false)})
			continue
		}
		n := powerOf(2, p-1) * prime
		checkInts(t, p, n, []wantInt{
			pair(impl.EvenPerfect(p)).is("EvenPerfect", n, true),
			pair(impl.ProperSum(n)).is("ProperSum", n, true),
			pair(impl.KindOfNumber(n)).is("KindOfNumber", 0, true),
		})
	}
}

func TestThabitPairs(t *testing.T) {
	some := 0
	for k := leastThabitK; k <= mostThabitK; k++ {
		power := powerOf(2, k)
		u, v, w := 3*power/2-1, 3*power-1, 9*power*power/2-1
		if !isPrimeOf(u) || !isPrimeOf(v) || !isPrimeOf(w) {
			checkThabit(t, k, 0, 0, false)
			continue
		}
		a, b := power*u*v, power*w
		checkThabit(t, k, a, b, true)
		checkInts(t, a, b, []wantInt{
			pair(impl.PartnerOf(a)).is("PartnerOf the first one", b, true),
			pair(impl.PartnerOf(b)).is("PartnerOf the second one", a, true),
		})
		some++
	}
	if some != 3 {
		t.Error("pairs by the rule", some)
	}
}

func TestSources(t *testing.T) {
	sums := properSums(20000) // twice as many numbers as a source of 100 may have
	var without []int
	for n := leastOfSources; n <= mostOfSource; n++ {
		var want []int
		for m, sum := range sums {
			if sum == n {
				want = append(want, m)
			}
		}
		sources, ok := impl.SourcesOf(n)
		checkNumbers(t, "SourcesOf", 0, n, sources, ok, want)
		if len(want) == 0 {
			without = append(without, n)
		}
		list, ok := impl.NoSources(n)
		checkNumbers(t, "NoSources", 0, n, list, ok, without)
	}
}
