package tests

import (
	"math/big"
	"slices"
	"strconv"
	"strings"
)

// The functions here tell digits by texts of the library strconv and by big numbers, so that the tests share no method with the program.

const limit = 1000000000000

var bases = []int{2, 3, 4, 5, 6, 7, 8, 9, 10, 11, 12, 13, 14, 15, 16}

func textOf(n int, base int) string { return strconv.FormatInt(int64(n), base) }

func digitsOf(n int, base int) []int {
	var digits []int
	for _, letter := range textOf(n, base) {
		d, _ := strconv.ParseInt(string(letter), 16, 64)
		digits = append(digits, int(d))
	}
	return digits
}

// valueOf reads a text of digits, which may have zeros in front, and tells whether the value is in 0..MaxNumber.
func valueOf(text string, base int) (int, bool) {
	v, ok := new(big.Int).SetString(text, base)
	if !ok || v.Cmp(big.NewInt(limit)) > 0 {
		return 0, false
	}
	return int(v.Int64()), true
}

func backwards(text string) string {
	letters := strings.Split(text, "")
	slices.Reverse(letters)
	return strings.Join(letters, "")
}

// sortedText has the letters in the order of bytes, which is the order of the digits.
func sortedText(text string) string {
	letters := strings.Split(text, "")
	slices.Sort(letters)
	return strings.Join(letters, "")
}

func countsOf(n int, base int) []int {
	counts := make([]int, base)
	for _, d := range digitsOf(n, base) {
		counts[d]++
	}
	return counts
}

func isSymmetricText(text string) bool {
	for i := range len(text) / 2 {
		if text[i] != text[len(text)-1-i] {
			return false
		}
	}
	return true
}

// waysOfCounts counts the orders of digits as a factorial divided by factorials, for each digit that may stand in front.
func waysOfCounts(counts []int) *big.Int {
	ways := new(big.Int)
	for d := 1; d < len(counts); d++ {
		if counts[d] == 0 {
			continue
		}
		rest := slices.Clone(counts)
		rest[d]--
		total := 0
		for _, c := range rest {
			total += c
		}
		orders := factorial(total)
		for _, c := range rest {
			orders.Quo(orders, factorial(c))
		}
		ways.Add(ways, orders)
	}
	return ways
}

func factorial(n int) *big.Int { return new(big.Int).MulRange(1, int64(n)) }

// numbersToTry has all small numbers and, for each base, the ones around its powers, the limit and some between.
func numbersToTry(base int) []int {
	var numbers []int
	for n := range 1200 {
		numbers = append(numbers, n)
	}
	for p := base; p <= limit; p *= base {
		numbers = append(numbers, p-1, p, p+1, p+p/base, 2*p-1, p/2*3+1)
	}
	for n, step := limit, 1; n > 0; n, step = n-step, step*3 {
		numbers = append(numbers, n)
	}
	for k := range 300 {
		numbers = append(numbers, k*3333333331+k*k*k*37+k)
	}
	return slices.DeleteFunc(numbers, func(n int) bool { return n > limit })
}
