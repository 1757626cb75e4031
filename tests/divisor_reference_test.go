package tests

import (
	"math/big"
	"slices"
)

// The functions here try all divisors, add numbers to their multiples, tell prime numbers by big numbers, and tell ends by looking through all numbers of a run, so that the tests share no method with the program.

const (
	mostDivided                  = 1000000000
	mostTerms                    = 60
	mostPaired                   = 10000
	leastPerfectP, mostPerfectP  = 2, 15
	leastThabitK, mostThabitK    = 2, 7
	leastOfSources, mostOfSource = 2, 100
)

func isPrimeOf(n int) bool { return big.NewInt(int64(n)).ProbablyPrime(0) } // exact for such numbers

// divisorsOf returns all divisors, increasing.
func divisorsOf(n int) []int {
	var lesser, greater []int
	for d := 1; d*d <= n; d++ {
		if n%d != 0 {
			continue
		}
		lesser = append(lesser, d)
		if d*d < n {
			greater = append(greater, n/d)
		}
	}
	slices.Reverse(greater)
	return append(lesser, greater...)
}

func properSumOf(n int) int {
	sum := 0
	for _, d := range divisorsOf(n) {
		if d < n {
			sum += d
		}
	}
	return sum
}

// properSums returns the proper sums of all numbers up to most. What is at 0 has no meaning.
func properSums(most int) []int {
	sums := make([]int, most+1)
	for d := 1; d <= most; d++ {
		for n := 2 * d; n <= most; n += d {
			sums[n] += d
		}
	}
	return sums
}

func kindBySum(n int, sum int) int {
	switch {
	case sum < n:
		return -1
	case sum > n:
		return 1
	}
	return 0
}

// properWalk has the first numbers of a run, each once, and the proper sum of each of them.
type properWalk struct {
	numbers []int
	sums    map[int]int
}

func walkOfSums(n int, most int) properWalk {
	walk := properWalk{sums: map[int]int{}}
	for len(walk.numbers) < most && n >= 1 && n <= mostDivided && !slices.Contains(walk.numbers, n) {
		walk.numbers = append(walk.numbers, n)
		walk.sums[n] = properSumOf(n)
		n = walk.sums[n]
	}
	return walk
}

// first returns the walk that ends behind most numbers at the latest.
func (w properWalk) first(most int) properWalk {
	return properWalk{w.numbers[:min(most, len(w.numbers))], w.sums}
}

// circle begins at each number, the least one first, and goes on as long as the numbers are in the walk.
func (w properWalk) circle() []int {
	for _, start := range slices.Sorted(slices.Values(w.numbers)) {
		circle := []int{start}
		for range w.numbers {
			next := w.sums[circle[len(circle)-1]]
			if next == start {
				return circle
			}
			if !slices.Contains(w.numbers, next) {
				break
			}
			circle = append(circle, next)
		}
	}
	return nil
}

func (w properWalk) end() int {
	if slices.Contains(w.numbers, 1) {
		return 0
	}
	switch len(w.circle()) {
	case 0:
	case 1:
		return 1
	case 2:
		return 2
	default:
		return 3
	}
	for _, n := range w.numbers {
		if w.sums[n] > mostDivided {
			return 4
		}
	}
	return 5
}

// pairsBySums looks at all numbers up to most as the lesser ones of two partners.
func pairsBySums(most int) [][]int {
	var pairs [][]int
	for a := 1; a <= most; a++ {
		if b := properSumOf(a); b > a && properSumOf(b) == a {
			pairs = append(pairs, []int{a, b})
		}
	}
	return pairs
}

// numbersToDivide has numbers of each kind up to the limit: all near it, powers, and products with great prime factors.
func numbersToDivide() []int {
	numbers := []int{
		999999937, 999999929, 499999993, 2 * 499999993, 3 * 333333313, 31607 * 31607, 31601 * 31627, 31607 * 31627,
		997 * 997 * 997, 991 * 997 * 1009, 735134400, 698377680, 31622 * 31622, 223092870,
		6, 28, 496, 8128, 33550336, 945, 12496, 14316, 14288, 1264460, 498215416,
	}
	for n := mostDivided - 200; n <= mostDivided; n++ {
		numbers = append(numbers, n)
	}
	for base := 2; base <= 40; base++ {
		for power := base; power <= mostDivided; power *= base {
			numbers = append(numbers, power)
		}
	}
	return numbers
}
