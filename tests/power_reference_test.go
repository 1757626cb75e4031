package tests

import (
	"math/big"
	"slices"
)

// The functions here tell power sums by the texts of numbers and by big numbers, cycles by taking away what is on none, and counts by all numbers one after the other or by factorials, so that the tests share no method with the program.

const mostPower, mostCycled = 8, 4

var searchedBases = bases[:9] // 2..10

func powerOf(b int, p int) int {
	return int(new(big.Int).Exp(big.NewInt(int64(b)), big.NewInt(int64(p)), nil).Int64())
}

func powerSumOf(n int, base int, p int) int {
	sum := 0
	for _, d := range digitsOf(n, base) {
		sum += powerOf(d, p)
	}
	return sum
}

// fallsAt reports whether k (base - 1)^p is less than base^(k - 1).
func fallsAt(k int, base int, p int) bool {
	greatest := new(big.Int).Exp(big.NewInt(int64(base-1)), big.NewInt(int64(p)), nil)
	least := new(big.Int).Exp(big.NewInt(int64(base)), big.NewInt(int64(k-1)), nil)
	return greatest.Mul(greatest, big.NewInt(int64(k))).Cmp(least) < 0
}

// fallsFromOf looks from far above for the last k that does not fall.
func fallsFromOf(base int, p int) int {
	k := 60
	for k > 1 && fallsAt(k-1, base, p) {
		k--
	}
	return k
}

// sumTable keeps the power sums of the numbers below its length, so that long searches need not make texts again and again.
func sumTable(length int, base int, p int) []int {
	table := make([]int, length)
	for n := range table {
		if n < base {
			table[n] = powerOf(n, p)
		} else {
			table[n] = table[n%base] + table[n/base]
		}
	}
	return table
}

// powerRunOf goes from n up to the last number that was not there before, and returns these and how many of them come before the cycle.
func powerRunOf(n int, base int, p int) ([]int, int) {
	var run []int
	at := map[int]int{}
	for {
		if first, ok := at[n]; ok {
			return run, first
		}
		at[n] = len(run)
		run = append(run, n)
		n = powerSumOf(n, base, p)
	}
}

// powerCyclesOf takes away the numbers to which none leads, again and again, among all that have fewer digits than those from which numbers fall: what is left are the cycles.
func powerCyclesOf(base int, p int) [][]int {
	table := sumTable(powerOf(base, fallsFromOf(base, p)-1), base, p)
	before := make([]int, len(table))
	for _, m := range table {
		before[m]++
	}
	isOff := make([]bool, len(table))
	for n := range table {
		for before[n] == 0 && !isOff[n] {
			isOff[n] = true
			n = table[n]
			before[n]--
		}
	}
	var cycles [][]int
	for n := range table {
		if isOff[n] {
			continue
		}
		cycle := []int{n}
		for m := table[n]; m != n; m = table[m] {
			cycle = append(cycle, m)
		}
		if slices.Min(cycle) == n {
			cycles = append(cycles, cycle)
		}
	}
	return cycles
}

// isHappyOf goes on until the run comes to 1 or to a number that was there before.
func isHappyOf(n int, base int) bool {
	run, _ := powerRunOf(n, base, 2)
	return n > 0 && slices.Contains(run, 1)
}

// ownPowersOf tries all numbers with fewer digits than those from which numbers fall.
func ownPowersOf(base int, p int) []int {
	var own []int
	for n, sum := range sumTable(powerOf(base, fallsFromOf(base, p)-1), base, p) {
		if n == sum {
			own = append(own, n)
		}
	}
	return own
}

// spreadOf counts, for each choice of how often the digits come in k places, the orders of these as a factorial divided by factorials.
func spreadOf(k int, base int) []int {
	spread := make([]int, k*(base-1)*(base-1)+1)
	var choose func(d int, left int, sum int, orders *big.Int)
	choose = func(d int, left int, sum int, orders *big.Int) {
		if d == 0 {
			spread[sum] += int(new(big.Int).Quo(orders, factorial(left)).Int64())
			return
		}
		for c := range left + 1 {
			choose(d-1, left-c, sum+c*d*d, new(big.Int).Quo(orders, factorial(c)))
		}
	}
	choose(base-1, k, 0, factorial(k))
	return spread
}

// leastWithSums returns, for all sums up to most, the least number with it, or -1 if there is none up to the limit: the last digit is any, and the digits before are the least number with what is left.
func leastWithSums(most int, base int, p int) []int {
	least, powers := make([]int, most+1), sumTable(base, base, p)
	for sum := 1; sum <= most; sum++ {
		least[sum] = -1
		for d := 1; d < base && powers[d] <= sum; d++ {
			before := least[sum-powers[d]]
			if before < 0 || before*base+d > limit {
				continue
			}
			if least[sum] < 0 || before*base+d < least[sum] {
				least[sum] = before*base + d
			}
		}
	}
	return least
}
