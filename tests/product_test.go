package tests

import (
	"slices"
	"testing"

	"loop.example/g01151/impl"
)

// Promise 6: product and sum runs end where remainders and least numbers tell.

// checkIsNumber is for functions that tell whether a number is of a kind.
func checkIsNumber(t *testing.T, name string, n int, base int, got bool, ok bool, want bool) {
	t.Helper()
	if got != want || !ok {
		t.Fatalf("%s of %d in base %d: %v %v, want %v", name, n, base, got, ok, want)
	}
}

// checkFound takes -1 for what is not to be found.
func checkFound(t *testing.T, name string, of int, base int, got int, ok bool, want int) {
	t.Helper()
	if ok != (want >= 0) || got != max(want, 0) {
		t.Fatalf("%s of %d in base %d: %d %v, want %d", name, of, base, got, ok, want)
	}
}

func checkProductRun(t *testing.T, n int, base int, want []int) {
	t.Helper()
	run, ok := impl.ProductRun(n, base)
	checkNumbers(t, "ProductRun", base, n, run, ok, want)
	checkInts(t, n, base, []wantInt{
		pair(impl.PersistenceOf(n, base)).is("PersistenceOf", len(want)-1, true),
		pair(impl.ProductRoot(n, base)).is("ProductRoot", want[len(want)-1], true),
	})
}

func checkSumRun(t *testing.T, n int, base int, want []int) {
	t.Helper()
	run, ok := impl.SumRun(n, base)
	checkNumbers(t, "SumRun", base, n, run, ok, want)
	checkInts(t, n, base, []wantInt{
		pair(impl.SumPersistence(n, base)).is("SumPersistence", len(want)-1, true),
		pair(impl.RootByRemainder(n, base)).is("RootByRemainder", want[len(want)-1], true),
	})
}

func TestLimitsOfProductsAreThoseOfTheDocument(t *testing.T) {
	if impl.MaxPersistence != mostPersistence {
		t.Error(impl.MaxPersistence)
	}
}

func TestExampleOfProducts(t *testing.T) {
	checkProductRun(t, 39, 10, []int{39, 27, 14, 4})
	checkSumRun(t, 199, 10, []int{199, 19, 10, 1})
	checkInts(t, 0, 10, []wantInt{
		pair(impl.LeastPersistent(3, 10)).is("LeastPersistent", 39, true),
		pair(impl.LeastWithProduct(24, 10)).is("LeastWithProduct", 38, true),
		pair(impl.LeastSumPersistent(3, 10)).is("LeastSumPersistent", 199, true),
	})
	numbers, ok := impl.SumProductNumbers(10, 200)
	checkNumbers(t, "SumProductNumbers", 10, 200, numbers, ok, []int{1, 135, 144})
}

func TestProductRuns(t *testing.T) {
	for _, base := range bases {
		for _, n := range numbersToTry(base) {
			checkProductRun(t, n, base, runOfDigits(n, base, digitProductOf))
		}
	}
	checkProductRun(t, 679, 10, []int{679, 378, 168, 48, 32, 6})
	checkProductRun(t, 68889, 10, []int{68889, 27648, 2688, 768, 336, 54, 20, 0})
}

func TestSumRuns(t *testing.T) {
	for _, base := range bases {
		for _, n := range numbersToTry(base) {
			want := runOfDigits(n, base, digitSumOf)
			checkSumRun(t, n, base, want)
			checkInts(t, n, base, []wantInt{pair(impl.DigitalRoot(n, base)).is("DigitalRoot", want[len(want)-1], true)})
		}
	}
	checkSumRun(t, 999999999999, 10, []int{999999999999, 108, 9})
	checkSumRun(t, 199999999999, 10, []int{199999999999, 100, 1})
}

// The remainder alone tells the root, and the root leaves the same one.
func TestRootsByRemainders(t *testing.T) {
	for _, base := range bases {
		for _, n := range numbersToTry(base) {
			root, ok := impl.RootByRemainder(n, base)
			if !ok || root%(base-1) != n%(base-1) || root >= base || (root == 0) != (n == 0) {
				t.Fatalf("RootByRemainder of %d in base %d: %d %v", n, base, root, ok)
			}
		}
	}
}

// All numbers are tried, those with digits 0 and 1 as well.
func TestLeastNumbersWithSmallProducts(t *testing.T) {
	const most = 20000
	for _, base := range bases {
		least := map[int]int{}
		for n := 1; n <= most; n++ {
			product := digitProductOf(n, base)
			if _, ok := least[product]; !ok && product > 0 {
				least[product] = n
			}
		}
		for product := 1; product <= 3000; product++ {
			n, ok := impl.LeastWithProduct(product, base)
			if want, found := least[product]; found {
				checkFound(t, "LeastWithProduct", product, base, n, ok, want)
			} else if ok && (n <= most || digitProductOf(n, base) != product) {
				t.Fatalf("LeastWithProduct of %d in base %d: %d", product, base, n)
			}
		}
	}
}

func TestLeastNumbersWithProducts(t *testing.T) {
	for _, base := range bases {
		least := leastByProduct(base)
		smooth := smoothUpTo(limit, base)
		step := len(smooth)/1200 + 1
		some, none := 0, 0
		for i := 0; i < len(smooth); i += step {
			product := smooth[i]
			want, found := least[product]
			if found {
				some++
			} else {
				want = -1
				none++
			}
			n, ok := impl.LeastWithProduct(product, base)
			checkFound(t, "LeastWithProduct", product, base, n, ok, want)
		}
		if some == 0 || none == 0 && base > 2 {
			t.Error("few products", base, some, none)
		}
	}
}

// To divide by the greatest digits first, the least number would have other digits.
func TestLeastNumbersThatGreedyDigitsMiss(t *testing.T) {
	for _, c := range []struct {
		product, base int
		digits        []int
	}{
		{72, 9, []int{2, 6, 6}},
		{180, 13, []int{2, 9, 10}},
		{180, 14, []int{2, 9, 10}},
		{180, 15, []int{2, 9, 10}},
	} {
		want, _ := impl.NumberOf(c.digits, c.base)
		n, ok := impl.LeastWithProduct(c.product, c.base)
		checkFound(t, "LeastWithProduct", c.product, c.base, n, ok, want)
	}
}

func TestCountsOfSmallProducts(t *testing.T) {
	const most = 4000
	for _, base := range bases {
		counts := countsByProduct(most, base)
		for product := 2; product <= most; product++ {
			count, ok := impl.CountWithProduct(product, base)
			checkFound(t, "CountWithProduct", product, base, count, ok, counts[product])
		}
	}
	checkInts(t, 8, 10, []wantInt{pair(impl.CountWithProduct(8, 10)).is("CountWithProduct", 4, true)}) // 8, 24, 42 and 222
}

func TestCountsOfGreatProducts(t *testing.T) {
	for _, base := range bases {
		for _, product := range []int{
			1 << 39, 1 << 38, 1<<39 - 1, 847288609443, 244140625, 244140625 * 4096, 13841287201, 1000000, 60466176, 479001600, 6227020800, 87178291200,
			1 << 20 * 729, 1 << 13 * 729 * 5 * 5 * 7 * 7 * 13, 1 << 12 * 729 * 25 * 49 * 11 * 13, 743008370688, 100000000003,
		} {
			want := countByOrders(product, base)
			if !want.IsInt64() {
				t.Fatal("a count has no place in an int", product, base)
			}
			count, ok := impl.CountWithProduct(product, base)
			checkFound(t, "CountWithProduct", product, base, count, ok, int(want.Int64()))
		}
	}
}

func TestSmoothNumbers(t *testing.T) {
	for _, base := range bases {
		for _, n := range slices.Concat(numbersToTry(base), smoothUpTo(1000000, base)) {
			is, ok := impl.IsSmooth(n, base)
			checkIsNumber(t, "IsSmooth", n, base, is, ok, isSmoothOf(n, base))
		}
		for i, n := range smoothUpTo(limit, base) {
			if i%5 == 0 {
				is, ok := impl.IsSmooth(n, base)
				checkIsNumber(t, "IsSmooth", n, base, is, ok, true)
			}
		}
	}
}

func TestProductsAreCountedExactlyIfTheyAreSmooth(t *testing.T) {
	for _, base := range bases {
		smooth, not := 0, 0
		for _, n := range numbersToTry(base) {
			if n < 2 {
				continue
			}
			is, isOK := impl.IsSmooth(n, base)
			count, ok := impl.CountWithProduct(n, base)
			if !isOK || !ok || is != (count >= 1) {
				t.Fatalf("%d in base %d: smooth %v, but the count %d", n, base, is, count)
			}
			if is {
				smooth++
				continue
			}
			not++
			least, leastOK := impl.LeastWithProduct(n, base)
			checkFound(t, "LeastWithProduct", n, base, least, leastOK, -1)
		}
		if smooth == 0 && base > 2 || not == 0 {
			t.Error("few numbers", base, smooth, not)
		}
	}
}

func TestLeastNumbersOfEachPersistence(t *testing.T) {
	for _, base := range bases {
		for k, want := range leastPersistents(base) {
			n, ok := impl.LeastPersistent(k, base)
			checkFound(t, "LeastPersistent", k, base, n, ok, want)
			if want < 0 {
				continue
			}
			checkInts(t, n, base, []wantInt{pair(impl.PersistenceOf(n, base)).is("PersistenceOf", k, true)})
			if up, ok := impl.SortedUp(n, base); k != 1 && (up != n || !ok) {
				t.Errorf("LeastPersistent of %d in base %d: the digits of %d fall", k, base, n)
			}
		}
	}
	for k, want := range []int{0, 10, 25, 39, 77, 679, 6788, 68889, 2677889, -1, -1, -1, -1} { // 26888999 is the next one
		n, ok := impl.LeastPersistent(k, 10)
		checkFound(t, "LeastPersistent", k, 10, n, ok, want)
	}
}

func TestLeastNumbersOfEachSumPersistence(t *testing.T) {
	for _, base := range bases {
		least := slices.Repeat([]int{-1}, mostSumPersistence+1)
		for n := range 600 {
			if k := len(runOfDigits(n, base, digitSumOf)) - 1; k <= mostSumPersistence && least[k] < 0 {
				least[k] = n
			}
		}
		for k, want := range least {
			if want < 0 {
				t.Fatal("too few numbers", base, k)
			}
			n, ok := impl.LeastSumPersistent(k, base)
			checkFound(t, "LeastSumPersistent", k, base, n, ok, want)
			checkInts(t, n, base, []wantInt{pair(impl.SumPersistence(n, base)).is("SumPersistence", k, true)})
		}
	}
}

func TestHarshadNumbers(t *testing.T) {
	for _, base := range bases {
		for _, n := range numbersToTry(base) {
			is, ok := impl.IsHarshad(n, base)
			checkIsNumber(t, "IsHarshad", n, base, is, ok, isHarshadOf(n, base))
			next, ok := impl.NextHarshad(n, base)
			checkFound(t, "NextHarshad", n, base, next, ok, nextHarshadOf(n, base))
		}
	}
	checkInts(t, 0, 10, []wantInt{
		pair(impl.NextHarshad(10, 10)).is("NextHarshad of 10", 12, true),
		pair(impl.NextHarshad(12, 10)).is("NextHarshad of 12", 18, true),
		pair(impl.NextHarshad(90, 10)).is("NextHarshad of 90", 100, true),
	})
}

func TestZuckermanNumbers(t *testing.T) {
	for _, base := range bases {
		some := 0
		for _, n := range numbersToTry(base) {
			want := isZuckermanOf(n, base)
			is, ok := impl.IsZuckerman(n, base)
			checkIsNumber(t, "IsZuckerman", n, base, is, ok, want)
			if want && n >= base {
				some++
			}
		}
		if some == 0 {
			t.Error("no such numbers", base)
		}
	}
	var few []int
	for n := range 200 {
		if is, _ := impl.IsZuckerman(n, 10); is {
			few = append(few, n)
		}
	}
	checkNumbers(t, "IsZuckerman", 10, 200, few, true, []int{1, 2, 3, 4, 5, 6, 7, 8, 9, 11, 12, 15, 24, 36, 111, 112, 115, 128, 132, 135, 144, 175})
}

func TestNumbersOfSumsAndProducts(t *testing.T) {
	for _, base := range bases {
		all := sumProductsOf(base, mostSumProduct)
		numbers, ok := impl.SumProductNumbers(base, mostSumProduct)
		checkNumbers(t, "SumProductNumbers", base, mostSumProduct, numbers, ok, all)
		for _, n := range all {
			sum, _ := impl.DigitSum(n, base)
			product, _ := impl.DigitProduct(n, base)
			if sum*product != n {
				t.Errorf("%d in base %d: %d times %d", n, base, sum, product)
			}
			// A most that is such a number counts it.
			for _, most := range []int{n - 1, n, n + 1} {
				isGreater := func(m int) bool { return m > most }
				want := slices.DeleteFunc(slices.Clone(all), isGreater)
				numbers, ok := impl.SumProductNumbers(base, most)
				checkNumbers(t, "SumProductNumbers", base, most, numbers, ok, want)
			}
		}
	}
}
