package tests

import (
	"slices"
	"testing"

	"loop.example/g01151/impl"
)

func TestProductsAndSumsOfZero(t *testing.T) {
	for _, base := range bases {
		checkProductRun(t, 0, base, []int{0})
		checkSumRun(t, 0, base, []int{0})
		smooth, ok := impl.IsSmooth(0, base)
		checkIsNumber(t, "IsSmooth", 0, base, smooth, ok, false)
		harshad, ok := impl.IsHarshad(0, base)
		checkIsNumber(t, "IsHarshad", 0, base, harshad, ok, false)
		zuckerman, ok := impl.IsZuckerman(0, base)
		checkIsNumber(t, "IsZuckerman", 0, base, zuckerman, ok, false)
		checkInts(t, 0, base, []wantInt{
			pair(impl.NextHarshad(0, base)).is("NextHarshad", 1, true),
			pair(impl.LeastWithProduct(0, base)).is("LeastWithProduct", 0, false),
			pair(impl.CountWithProduct(0, base)).is("CountWithProduct", 0, false),
		})
	}
}

func TestNumbersLessThanTheBase(t *testing.T) {
	for _, base := range bases {
		for n := 1; n < base; n++ {
			checkProductRun(t, n, base, []int{n})
			checkSumRun(t, n, base, []int{n})
			harshad, ok := impl.IsHarshad(n, base)
			checkIsNumber(t, "IsHarshad", n, base, harshad, ok, true)
			zuckerman, ok := impl.IsZuckerman(n, base)
			checkIsNumber(t, "IsZuckerman", n, base, zuckerman, ok, true)
			smooth, ok := impl.IsSmooth(n, base)
			checkIsNumber(t, "IsSmooth", n, base, smooth, ok, true)
			checkInts(t, n, base, []wantInt{
				pair(impl.LeastWithProduct(n, base)).is("LeastWithProduct", n, true),
				pair(impl.NextHarshad(n, base)).is("NextHarshad", n+1, true), // base is 1 0
			})
		}
		checkProductRun(t, base, base, []int{base, 0})
		checkSumRun(t, base, base, []int{base, 1})
		checkProductRun(t, base+1, base, []int{base + 1, 1})
	}
}

func TestProductsAndSumsOfTheGreatestNumber(t *testing.T) {
	for _, base := range bases {
		checkProductRun(t, limit, base, runOfDigits(limit, base, digitProductOf))
		checkSumRun(t, limit, base, runOfDigits(limit, base, digitSumOf))
		// 10^12 is divided by 2 and by 5 alone.
		smooth, ok := impl.IsSmooth(limit, base)
		checkIsNumber(t, "IsSmooth", limit, base, smooth, ok, base > 5)
		harshad, ok := impl.IsHarshad(limit, base)
		checkIsNumber(t, "IsHarshad", limit, base, harshad, ok, isHarshadOf(limit, base))
		zuckerman, ok := impl.IsZuckerman(limit, base)
		checkIsNumber(t, "IsZuckerman", limit, base, zuckerman, ok, isZuckermanOf(limit, base))
		count, ok := impl.CountWithProduct(limit, base)
		checkFound(t, "CountWithProduct", limit, base, count, ok, int(countByOrders(limit, base).Int64()))
		checkNothingOfProducts(t, limit+1, base)
	}
	checkProductRun(t, limit, 10, []int{limit, 0})
	checkSumRun(t, limit, 10, []int{limit, 1})
}

func TestProductsOfOne(t *testing.T) {
	for _, base := range bases {
		smooth, ok := impl.IsSmooth(1, base)
		checkIsNumber(t, "IsSmooth", 1, base, smooth, ok, true)
		checkInts(t, 1, base, []wantInt{
			pair(impl.LeastWithProduct(1, base)).is("LeastWithProduct", 1, true),
			pair(impl.CountWithProduct(1, base)).is("CountWithProduct", 0, false), // it takes products of at least 2
		})
		if count, ok := impl.CountWithProduct(2, base); !ok || (count == 1) != (base > 2) {
			t.Error("CountWithProduct of 2", base, count, ok)
		}
	}
	// The least number with a product has no digit 1 to no purpose.
	checkInts(t, 10, 10, []wantInt{
		pair(impl.LeastWithProduct(9, 10)).is("LeastWithProduct of 9", 9, true),
		pair(impl.LeastWithProduct(10, 10)).is("LeastWithProduct of 10", 25, true),
		pair(impl.LeastWithProduct(16, 10)).is("LeastWithProduct of 16", 28, true),
		pair(impl.LeastWithProduct(36, 10)).is("LeastWithProduct of 36", 49, true),
		pair(impl.LeastWithProduct(10, 11)).is("LeastWithProduct of the digit 10", 10, true),
	})
}

func TestProductsThatNoNumberHas(t *testing.T) {
	primes := []int{2, 3, 5, 7, 11, 13, 17, 19, 97, 999983, 999999999989}
	for _, base := range bases {
		for _, prime := range primes {
			for _, product := range []int{prime, 2 * prime, 12 * prime, prime * prime} {
				if product > limit {
					continue
				}
				if isSmoothOf(product, base) {
					continue
				}
				count, ok := impl.CountWithProduct(product, base)
				checkFound(t, "CountWithProduct", product, base, count, ok, 0)
				least, ok := impl.LeastWithProduct(product, base)
				checkFound(t, "LeastWithProduct", product, base, least, ok, -1)
				smooth, ok := impl.IsSmooth(product, base)
				checkIsNumber(t, "IsSmooth", product, base, smooth, ok, false)
			}
		}
		// A prime number that is the base itself is not smooth, one less than it is.
		if slices.Contains(primes, base) {
			smooth, ok := impl.IsSmooth(base, base)
			checkIsNumber(t, "IsSmooth", base, base, smooth, ok, false)
		}
		if slices.Contains(primes, base-1) {
			smooth, ok := impl.IsSmooth(powerOf(base-1, 3), base)
			checkIsNumber(t, "IsSmooth", powerOf(base-1, 3), base, smooth, ok, true)
		}
	}
	for _, n := range []int{2, 3, 4, 8, 1 << 39} {
		count, ok := impl.CountWithProduct(n, 2)
		checkFound(t, "CountWithProduct", n, 2, count, ok, 0)
		least, ok := impl.LeastWithProduct(n, 2)
		checkFound(t, "LeastWithProduct", n, 2, least, ok, -1)
		smooth, ok := impl.IsSmooth(n, 2)
		checkIsNumber(t, "IsSmooth", n, 2, smooth, ok, false)
	}
}

// Numbers of as many digits 2 in the base 3, or of as many digits 9 or 5 in the base 10, as there is place for, and of one more.
func TestLeastNumbersWithProductsAtTheLimit(t *testing.T) {
	for _, c := range []struct{ product, base, least, count int }{
		{1 << 25, 3, powerOf(3, 25) - 1, 1},
		{1 << 26, 3, -1, 1},
		{1 << 39, 3, -1, 1},
		{powerOf(9, 12), 10, limit - 1, 75025}, // ways to go 24 places in steps of 1 and 2
		{powerOf(5, 12), 10, 555555555555, 1},
		{powerOf(5, 13), 10, -1, 1},
		{powerOf(5, 12) * 2, 10, -1, 13},
		{powerOf(7, 12), 10, 777777777777, 1},
		{powerOf(7, 14), 10, -1, 1},
		{powerOf(3, 19), 4, powerOf(4, 19) - 1, 1},
		{powerOf(3, 20), 4, -1, 1},
		{powerOf(13, 10), 14, powerOf(14, 10) - 1, 1},
		{powerOf(13, 10), 16, powerOf(16, 10) / 15 * 13, 1}, // ten digits d
		{powerOf(11, 11), 12, powerOf(12, 11) - 1, 1},
	} {
		n, ok := impl.LeastWithProduct(c.product, c.base)
		checkFound(t, "LeastWithProduct", c.product, c.base, n, ok, c.least)
		count, ok := impl.CountWithProduct(c.product, c.base)
		checkFound(t, "CountWithProduct", c.product, c.base, count, ok, c.count)
	}
}

// Lists of digits 2, 4 and 8 alone, all of them of more digits than MaxNumber has, are counted too: they are the ways to go 39 places in steps of 1, 2 and 3.
func TestCountsOfNumbersBeyondTheLimit(t *testing.T) {
	ways := []int{1, 1, 2}
	for k := 3; k <= 39; k++ {
		ways = append(ways, ways[k-1]+ways[k-2]+ways[k-3])
	}
	for k := 1; k <= 39; k++ {
		checkInts(t, 1<<k, 0, []wantInt{
			pair(impl.CountWithProduct(1<<k, 3)).is("CountWithProduct in base 3", 1, true),
			pair(impl.CountWithProduct(1<<k, 10)).is("CountWithProduct in base 10", ways[k], true),
			pair(impl.CountWithProduct(1<<k, 16)).is("CountWithProduct in base 16", ways[k], true),
		})
	}
}

// No product up to the limit has more lists of digits than the last one.
func TestCountsOfProductsWithTheMostNumbers(t *testing.T) {
	for _, c := range []struct{ product, count int }{
		{802632499200, 18238933365681864},
		{902961561600, 21561444334072710},
	} {
		count, ok := impl.CountWithProduct(c.product, 16)
		checkFound(t, "CountWithProduct", c.product, 16, count, ok, c.count)
		if want := countByOrders(c.product, 16); want.Int64() != int64(c.count) {
			t.Error("another count", c.product, want)
		}
	}
}

func TestPersistencesAtTheLimits(t *testing.T) {
	for _, base := range bases {
		checkInts(t, 0, base, []wantInt{
			pair(impl.LeastPersistent(0, base)).is("LeastPersistent of 0", 0, true),
			pair(impl.LeastPersistent(1, base)).is("LeastPersistent of 1", base, true),
			pair(impl.LeastPersistent(mostPersistence, base)).is("LeastPersistent of MaxPersistence", 0, false),
			pair(impl.LeastPersistent(mostPersistence+1, base)).is("LeastPersistent of one more", 0, false),
			pair(impl.LeastPersistent(-1, base)).is("LeastPersistent of -1", 0, false),
		})
	}
	// In the base 2 all products are 0 or 1; in the base 3, no number up to 10000000 has a persistence of 4.
	for k := 2; k <= mostPersistence; k++ {
		n, ok := impl.LeastPersistent(k, 2)
		checkFound(t, "LeastPersistent", k, 2, n, ok, -1)
	}
	checkInts(t, 0, 0, []wantInt{
		pair(impl.LeastPersistent(3, 3)).is("LeastPersistent in base 3", 26, true),
		pair(impl.LeastPersistent(4, 3)).is("LeastPersistent in base 3", 0, false),
		pair(impl.LeastPersistent(8, 10)).is("LeastPersistent in base 10", 2677889, true),
		pair(impl.LeastPersistent(9, 10)).is("LeastPersistent in base 10", 0, false),
		pair(impl.PersistenceOf(26888999, 10)).is("PersistenceOf what is too great", 9, true),
		pair(impl.PersistenceOf(3778888999, 10)).is("PersistenceOf what is far too great", 10, true),
		pair(impl.PersistenceOf(277777788888, 10)).is("PersistenceOf twelve digits", len(runOfDigits(277777788888, 10, digitProductOf))-1, true),
	})
}

func TestSumPersistencesAtTheLimits(t *testing.T) {
	for _, base := range bases {
		checkInts(t, 0, base, []wantInt{
			pair(impl.LeastSumPersistent(0, base)).is("LeastSumPersistent of 0", 0, true),
			pair(impl.LeastSumPersistent(1, base)).is("LeastSumPersistent of 1", base, true),
			pair(impl.LeastSumPersistent(4, base)).is("LeastSumPersistent of 4", 0, false),
			pair(impl.LeastSumPersistent(-1, base)).is("LeastSumPersistent of -1", 0, false),
		})
		if base == 2 {
			continue
		}
		// The remainder 1 is in front, and one digit base - 1, or two, behind.
		checkInts(t, 0, base, []wantInt{
			pair(impl.LeastSumPersistent(2, base)).is("LeastSumPersistent of 2", 2*base-1, true),
			pair(impl.LeastSumPersistent(3, base)).is("LeastSumPersistent of 3", 2*base*base-1, true),
		})
	}
	// By 1 all remainders are 0, which are left out: 1 1, and 1 1 1.
	checkInts(t, 0, 2, []wantInt{
		pair(impl.LeastSumPersistent(2, 2)).is("LeastSumPersistent of 2", 3, true),
		pair(impl.LeastSumPersistent(3, 2)).is("LeastSumPersistent of 3", 7, true),
		pair(impl.SumPersistence(127, 2)).is("SumPersistence of seven 1", 4, true),
	})
}

func TestRootsOfMultiplesOfTheGreatestDigit(t *testing.T) {
	for _, base := range bases {
		for n := 0; n <= limit; n = n*3 + base - 1 {
			multiple := n / (base - 1) * (base - 1)
			want := base - 1
			if multiple == 0 {
				want = 0
			}
			checkInts(t, multiple, base, []wantInt{
				pair(impl.RootByRemainder(multiple, base)).is("RootByRemainder", want, true),
				pair(impl.RootByRemainder(multiple+1, base)).is("RootByRemainder of one more", 1, true),
			})
		}
		for _, n := range []int{1, 2, 3, limit - 1, limit} {
			checkInts(t, n, 2, []wantInt{pair(impl.RootByRemainder(n, 2)).is("RootByRemainder", 1, true)})
		}
	}
}

func TestHarshadNumbersBehindTheLimit(t *testing.T) {
	behind := 0
	for _, base := range bases {
		next, ok := impl.NextHarshad(limit, base)
		checkFound(t, "NextHarshad", limit, base, next, ok, -1)
		last := limit
		for !isHarshadOf(last, base) {
			last--
		}
		next, ok = impl.NextHarshad(last-1, base)
		checkFound(t, "NextHarshad", last-1, base, next, ok, last)
		next, ok = impl.NextHarshad(last, base)
		checkFound(t, "NextHarshad", last, base, next, ok, -1)
		if last < limit {
			behind++
			next, ok = impl.NextHarshad(limit-1, base)
			checkFound(t, "NextHarshad", limit-1, base, next, ok, -1)
		}
	}
	if behind == 0 {
		t.Error("MaxNumber is harshad in all bases")
	}
	next, ok := impl.NextHarshad(limit-1, 10)
	checkFound(t, "NextHarshad", limit-1, 10, next, ok, limit)
}

func TestDigitsThatAreZero(t *testing.T) {
	for _, base := range bases {
		for _, n := range []int{base, base * base, base*base + 1, 2*base*base + base - 1, base * 12, limit / base * base} {
			if !slices.Contains(digitsOf(n, base), 0) {
				t.Fatal("no digit 0", n, base)
			}
			zuckerman, ok := impl.IsZuckerman(n, base)
			checkIsNumber(t, "IsZuckerman", n, base, zuckerman, ok, false)
			checkProductRun(t, n, base, []int{n, 0})
		}
		// Digits 1 alone have the product 1.
		ones := base*base + base + 1
		zuckerman, ok := impl.IsZuckerman(ones, base)
		checkIsNumber(t, "IsZuckerman", ones, base, zuckerman, ok, true)
	}
}

func TestMostOfSumProductsAtTheLimits(t *testing.T) {
	for _, base := range bases {
		numbers, ok := impl.SumProductNumbers(base, 0)
		checkNumbers(t, "SumProductNumbers", base, 0, numbers, ok, nil)
		numbers, ok = impl.SumProductNumbers(base, 1)
		checkNumbers(t, "SumProductNumbers", base, 1, numbers, ok, []int{1})
		for _, most := range []int{-1, mostSumProduct + 1} {
			numbers, ok := impl.SumProductNumbers(base, most)
			checkNoList(t, "SumProductNumbers", numbers, ok)
		}
	}
	for base, want := range map[int][]int{2: {1}, 4: {1, 6}, 5: {1, 96}, 7: {1, 16, 128, 480, 864}, 10: {1, 135, 144}, 11: {1, 300, 504, 2880, 10080}, 16: {1, 20}} {
		numbers, ok := impl.SumProductNumbers(base, mostSumProduct)
		checkNumbers(t, "SumProductNumbers", base, mostSumProduct, numbers, ok, want)
	}
}

func TestBasesOfProductsAtTheLimits(t *testing.T) {
	for _, n := range []int{0, 1, 2, 39, limit} {
		for _, base := range []int{2, 16} {
			checkProductRun(t, n, base, runOfDigits(n, base, digitProductOf))
			checkSumRun(t, n, base, runOfDigits(n, base, digitSumOf))
		}
		for _, base := range []int{1, 17} {
			checkNothingOfProducts(t, n, base)
		}
	}
}
