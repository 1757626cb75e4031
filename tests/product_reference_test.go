package tests

import (
	"math/big"
	"slices"
)

// The functions here multiply and add the digits of texts, make products from small ones up, count lists by how often each digit comes, and keep tables of all numbers, so that the tests share no method with the program.

const (
	mostPersistence, mostPersistent    = 12, 10000000
	mostSumPersistence, mostSumProduct = 3, 20000
)

func digitProductOf(n int, base int) int {
	product := 1
	for _, d := range digitsOf(n, base) {
		product *= d
	}
	return product
}

func digitSumOf(n int, base int) int { return powerSumOf(n, base, 1) }

// runOfDigits goes on as long as the text has more than one letter.
func runOfDigits(n int, base int, step func(n int, base int) int) []int {
	run := []int{n}
	for len(textOf(n, base)) > 1 {
		n = step(n, base)
		run = append(run, n)
	}
	return run
}

// leastByProduct makes all numbers up to the limit whose digits never fall and are none of 0 and 1, the least one first, and keeps the first one with each product.
func leastByProduct(base int) map[int]int {
	least := map[int]int{1: 1}
	var extend func(n int, product int, lowest int, places int)
	extend = func(n int, product int, lowest int, places int) {
		if n > limit {
			return
		}
		if places == 0 {
			if _, ok := least[product]; !ok {
				least[product] = n
			}
			return
		}
		for d := lowest; d < base; d++ {
			extend(n*base+d, product*d, d, places-1)
		}
	}
	for places := 1; places <= len(textOf(limit, base)); places++ {
		extend(0, 1, 2, places)
	}
	return least
}

// smoothUpTo makes all products of prime numbers less than the base, increasing.
func smoothUpTo(most int, base int) []int {
	smooth := []int{1}
	for _, prime := range []int{2, 3, 5, 7, 11, 13} {
		if prime >= base {
			break
		}
		for i := 0; i < len(smooth); i++ {
			if next := smooth[i] * prime; next <= most {
				smooth = append(smooth, next)
			}
		}
	}
	slices.Sort(smooth)
	return smooth
}

// isSmoothOf tries whether a number divides a high power of the product of all numbers less than the base: no prime number comes in it more than 39 times.
func isSmoothOf(n int, base int) bool {
	if n == 0 {
		return false
	}
	rest := new(big.Int).Exp(factorial(base-1), big.NewInt(40), big.NewInt(int64(n)))
	return rest.Sign() == 0
}

// countsByProduct writes digits of at least 2 one behind the other, as long as their product is at most most, and counts each list.
func countsByProduct(most int, base int) []int {
	counts := make([]int, most+1)
	var extend func(product int)
	extend = func(product int) {
		for d := 2; d < base && product*d <= most; d++ {
			counts[product*d]++
			extend(product * d)
		}
	}
	extend(1)
	return counts
}

// countByOrders counts, for each choice of how often the digits come, their orders as a factorial divided by factorials.
func countByOrders(product int, base int) *big.Int {
	total := new(big.Int)
	var choose func(d int, left int, places int, parts *big.Int)
	choose = func(d int, left int, places int, parts *big.Int) {
		if left == 1 {
			total.Add(total, new(big.Int).Quo(factorial(places), parts))
			return
		}
		if d < 2 {
			return
		}
		for c := 0; ; c++ {
			choose(d-1, left, places+c, new(big.Int).Mul(parts, factorial(c)))
			if left%d != 0 {
				return
			}
			left /= d
		}
	}
	choose(base-1, product, 0, big.NewInt(1))
	return total
}

// leastPersistents returns for k = 0, 1, .., MaxPersistence the first number up to 10000000 with this persistence, or -1, from tables of all these numbers.
func leastPersistents(base int) []int {
	least := slices.Repeat([]int{-1}, mostPersistence+1)
	products, times := make([]int32, mostPersistent+1), make([]int8, mostPersistent+1)
	for n := range products {
		if n < base {
			products[n] = int32(n)
		} else {
			products[n] = products[n/base] * int32(n%base)
			times[n] = times[products[n]] + 1
		}
		if k := times[n]; least[k] < 0 {
			least[k] = n
		}
	}
	return least
}

func isHarshadOf(n int, base int) bool { return n > 0 && n%digitSumOf(n, base) == 0 }

func isZuckermanOf(n int, base int) bool {
	product := digitProductOf(n, base)
	return product != 0 && n/product*product == n
}

// nextHarshadOf returns -1 if the next one is greater than the limit.
func nextHarshadOf(n int, base int) int {
	for n++; n <= limit; n++ {
		if isHarshadOf(n, base) {
			return n
		}
	}
	return -1
}

func sumProductsOf(base int, most int) []int {
	var numbers []int
	for n := 1; n <= most; n++ {
		if digitSumOf(n, base)*digitProductOf(n, base) == n {
			numbers = append(numbers, n)
		}
	}
	return numbers
}
