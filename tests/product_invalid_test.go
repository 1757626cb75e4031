package tests

import (
	"math"
	"slices"
	"testing"

	"loop.example/g01151/impl"
)

// Promise 11, for products and roots.

var (
	noPersistences    = []int{-1, -2, -12, mostPersistence + 1, mostPersistence + 2, 100, 1 << 32, math.MaxInt, math.MinInt}
	noSumPersistences = []int{-1, -2, -3, mostSumPersistence + 1, mostSumPersistence + 2, 12, 100, 1 << 32, math.MaxInt, math.MinInt}
	noSumProducts     = []int{-1, -2, -20000, mostSumProduct + 1, mostSumProduct + 2, limit, 1 << 32, math.MaxInt, math.MinInt}
)

// checkNothingOfProducts has all functions of a number and a base.
func checkNothingOfProducts(t *testing.T, n int, base int) {
	t.Helper()
	for name, call := range map[string]func(int, int) (int, bool){
		"PersistenceOf":    impl.PersistenceOf,
		"ProductRoot":      impl.ProductRoot,
		"LeastWithProduct": impl.LeastWithProduct,
		"CountWithProduct": impl.CountWithProduct,
		"SumPersistence":   impl.SumPersistence,
		"RootByRemainder":  impl.RootByRemainder,
		"NextHarshad":      impl.NextHarshad,
	} {
		if got, ok := call(n, base); got != 0 || ok {
			t.Errorf("%s of %d in base %d: %d %v", name, n, base, got, ok)
		}
	}
	for name, call := range map[string]func(int, int) (bool, bool){
		"IsSmooth":    impl.IsSmooth,
		"IsHarshad":   impl.IsHarshad,
		"IsZuckerman": impl.IsZuckerman,
	} {
		if is, ok := call(n, base); is || ok {
			t.Errorf("%s of %d in base %d: %v %v", name, n, base, is, ok)
		}
	}
	run, ok := impl.ProductRun(n, base)
	checkNoList(t, "ProductRun", run, ok)
	run, ok = impl.SumRun(n, base)
	checkNoList(t, "SumRun", run, ok)
}

func checkNoPersistent(t *testing.T, k int, base int) {
	t.Helper()
	n, ok := impl.LeastPersistent(k, base)
	checkNoInt(t, "LeastPersistent", n, ok)
}

func checkNoSumPersistent(t *testing.T, k int, base int) {
	t.Helper()
	n, ok := impl.LeastSumPersistent(k, base)
	checkNoInt(t, "LeastSumPersistent", n, ok)
}

func checkNoSumProducts(t *testing.T, base int, most int) {
	t.Helper()
	numbers, ok := impl.SumProductNumbers(base, most)
	checkNoList(t, "SumProductNumbers", numbers, ok)
}

func TestNumbersBeyondTheLimitsOfProducts(t *testing.T) {
	for _, n := range noNumbers {
		for _, base := range slices.Concat(bases, noBases) {
			checkNothingOfProducts(t, n, base)
		}
	}
}

func TestBasesBeyondTheLimitsOfProducts(t *testing.T) {
	for _, base := range noBases {
		for _, n := range []int{0, 1, 2, 9, 10, 24, 39, 199, 20000, limit} {
			checkNothingOfProducts(t, n, base)
			checkNoSumProducts(t, base, n)
		}
		for k := range mostPersistence + 2 {
			checkNoPersistent(t, k, base)
			checkNoSumPersistent(t, k, base)
		}
	}
}

func TestPersistencesBeyondTheLimits(t *testing.T) {
	for _, base := range slices.Concat(bases, noBases) {
		for _, k := range noPersistences {
			checkNoPersistent(t, k, base)
		}
		for _, k := range noSumPersistences {
			checkNoSumPersistent(t, k, base)
		}
		for _, most := range noSumProducts {
			checkNoSumProducts(t, base, most)
		}
	}
}

func TestProductsBeyondTheLimits(t *testing.T) {
	for _, base := range slices.Concat(bases, noBases) {
		for _, product := range append([]int{0}, noNumbers...) {
			n, ok := impl.LeastWithProduct(product, base)
			checkNoInt(t, "LeastWithProduct", n, ok)
			count, ok := impl.CountWithProduct(product, base)
			checkNoInt(t, "CountWithProduct", count, ok)
		}
		count, ok := impl.CountWithProduct(1, base)
		checkNoInt(t, "CountWithProduct of 1", count, ok)
	}
}

func TestResultsOfProductsAreNew(t *testing.T) {
	for name, call := range map[string]func() ([]int, bool){
		"ProductRun":            func() ([]int, bool) { return impl.ProductRun(679, 10) },
		"ProductRun of a digit": func() ([]int, bool) { return impl.ProductRun(7, 10) },
		"SumRun":                func() ([]int, bool) { return impl.SumRun(199, 10) },
		"SumRun of a digit":     func() ([]int, bool) { return impl.SumRun(0, 10) },
		"SumProductNumbers":     func() ([]int, bool) { return impl.SumProductNumbers(7, 1000) },
	} {
		first, _ := call()
		want := slices.Clone(first)
		second, _ := call()
		fill(first)
		third, _ := call()
		if !slices.Equal(second, want) || !slices.Equal(third, want) {
			t.Error(name, "results share memory", second, third)
		}
	}
}
