package tests

import (
	"math/big"
	"slices"
	"strings"
)

// The functions here say texts from which one stretch after the other is cut off, look for lists that tell themselves among all lists, and find periods by going on until something is left again and digits by big numbers, so that the tests share no method with the program.

const (
	mostSaid           = 400
	mostFraction       = 2000
	mostInStretch      = 9
	mostSaySteps       = 30
	mostTold           = 12
	mostSelfTelling    = 10
	mostFractionDigits = 200
	mostFullPrime      = 300
)

// ones returns a list of so many ones.
func ones(length int) []int { return slices.Repeat([]int{1}, length) }

// zigzag returns a list of so many numbers, in which no two next to each other are the same.
func zigzag(length int) []int { return slices.Repeat([]int{1, 2}, length/2+1)[:length] }

// stretchTimes returns how long the longest stretches are.
func stretchTimes(word []int) []int {
	var times []int
	for text := lettersOf(word); text != ""; {
		rest := strings.TrimLeft(text, text[:1])
		times = append(times, len(text)-len(rest))
		text = rest
	}
	return times
}

// isWordToSay takes only lists of numbers in 1..9.
func isWordToSay(word []int) bool {
	return len(word) <= mostSaid && (len(word) == 0 || slices.Max(stretchTimes(word)) <= mostInStretch)
}

// saidOf returns what a list says, also if that is long.
func saidOf(word []int) []int {
	var said []int
	for text := lettersOf(word); text != ""; {
		rest := strings.TrimLeft(text, text[:1])
		said = append(said, len(text)-len(rest), digitsOfLetters(text[:1])[0])
		text = rest
	}
	return said
}

// unsaidOf returns the list that says a given one of numbers in 1..9, and nothing and false if there is none.
func unsaidOf(word []int) ([]int, bool) {
	var list []int
	for i := 0; i+1 < len(word); i += 2 {
		if i > 0 && word[i-1] == word[i+1] {
			return nil, false
		}
		for range word[i] {
			list = append(list, word[i+1])
		}
	}
	if len(word)%2 == 1 || len(list) > mostSaid {
		return nil, false
	}
	return list, true
}

// sayRunOf returns a run, and nothing where it fails.
func sayRunOf(word []int, steps int) [][]int {
	run := [][]int{word}
	for i := range steps {
		run = append(run, saidOf(run[i]))
	}
	for _, list := range run {
		if !isWordToSay(list) {
			return nil
		}
	}
	return run
}

// allLists returns all lists of a length of numbers in least..most, in lexicographic order.
func allLists(length int, least int, most int) [][]int {
	lists := [][]int{nil}
	for range length {
		var longer [][]int
		for _, list := range lists {
			for number := least; number <= most; number++ {
				longer = append(longer, append(slices.Clone(list), number))
			}
		}
		lists = longer
	}
	return lists
}

// listsWithSum returns all lists of a length of numbers in 0..sum that make sum together, in lexicographic order.
func listsWithSum(length int, sum int) [][]int {
	if length == 1 {
		return [][]int{{sum}}
	}
	var lists [][]int
	for first := 0; first <= sum; first++ {
		for _, rest := range listsWithSum(length-1, sum-first) {
			lists = append(lists, append([]int{first}, rest...))
		}
	}
	return lists
}

func isToldByAll(list []int) bool { return slices.Equal(list, tellingOf(list)) }

// tellingOf counts all numbers, also those that are no place, and asks for the places only then.
func tellingOf(list []int) []int {
	counts := map[int]int{}
	for _, number := range list {
		counts[number]++
	}
	var telling []int
	for i := range list {
		telling = append(telling, counts[i])
	}
	return telling
}

// leftOf returns what is left of a fraction before each of its digits, until something is left again, and where that was left before.
func leftOf(a int, n int, base int) ([]int, int) {
	var all []int
	seen := map[int]int{}
	for left := a; ; left = left * base % n {
		if place, ok := seen[left]; ok {
			return all, place
		}
		seen[left] = len(all)
		all = append(all, left)
	}
}

// periodByLeft returns how many digits stand before the period, and how many are in it. Digits come again exactly if what is left does, as it is what they tell.
func periodByLeft(a int, n int, base int) (int, int) {
	all, place := leftOf(a, n, base)
	return place, len(all) - place
}

func haveCommonDivisor(a int, b int) bool {
	return new(big.Int).GCD(nil, nil, big.NewInt(int64(a)), big.NewInt(int64(b))).Cmp(big.NewInt(1)) > 0
}

// powersToTry returns all divisors of the count of numbers below n without a common divisor: the order is one of them.
func powersToTry(n int) []int {
	count := 0
	for m := 1; m <= n; m++ {
		if !haveCommonDivisor(m, n) {
			count++
		}
	}
	return divisorsOf(count)
}

// leastPower returns the first one of some powers of the base that leaves what 1 leaves.
func leastPower(powers []int, n int, base int) int {
	one := new(big.Int).Mod(big.NewInt(1), big.NewInt(int64(n)))
	for _, k := range powers {
		if new(big.Int).Exp(big.NewInt(int64(base)), big.NewInt(int64(k)), big.NewInt(int64(n))).Cmp(one) == 0 {
			return k
		}
	}
	return 0
}

// fractionByBig returns the first k digits behind the point: those of the whole part of the fraction times base^k.
func fractionByBig(a int, n int, base int, k int) []int {
	power := new(big.Int).Exp(big.NewInt(int64(base)), big.NewInt(int64(k)), nil)
	whole := power.Mul(power, big.NewInt(int64(a)))
	whole.Div(whole, big.NewInt(int64(n)))
	if whole.Sign() == 0 {
		return make([]int, k)
	}
	text := whole.Text(base)
	return digitsOfLetters(strings.Repeat("0", k-len(text)) + text)
}

// valueByDigits returns the fraction with these digits before the period and in it: what both make together, less the ones before, divided by as many digits base - 1 as are in the period.
func valueByDigits(before []int, again []int, base int) *big.Rat {
	value := func(digits []int) *big.Int { return bigOf("0"+lettersOf(digits), base) }
	power := func(k int) *big.Int { return new(big.Int).Exp(big.NewInt(int64(base)), big.NewInt(int64(k)), nil) }
	num := value(slices.Concat(before, again))
	num.Sub(num, value(before))
	den := power(len(again))
	den.Sub(den, big.NewInt(1))
	den.Mul(den, power(len(before)))
	return new(big.Rat).SetFrac(num, den)
}

// isFullOf reports whether the powers of the base leave p - 1 different numbers that are not 0.
func isFullOf(p int, base int) bool {
	if p < 2 || !isPrimeOf(p) || base%p == 0 {
		return false
	}
	different := map[int]bool{}
	left := 1
	for range p - 1 {
		different[left] = true
		left = left * base % p
	}
	return len(different) == p-1
}

func fullPrimesOf(base int, most int) []int {
	var primes []int
	for p := 2; p <= most; p++ {
		if isFullOf(p, base) {
			primes = append(primes, p)
		}
	}
	return primes
}

// upTo returns what is not greater than most, of an increasing list.
func upTo(list []int, most int) []int {
	for i, number := range list {
		if number > most {
			return list[:i]
		}
	}
	return list
}

// turnsByTurning looks for the digits of each fraction in those of 1 / p written twice.
func turnsByTurning(p int, base int) []int {
	cyclic := lettersOf(fractionByBig(1, p, base, p-1))
	var turns []int
	for a := 1; a < p; a++ {
		turns = append(turns, strings.Index(cyclic+cyclic, lettersOf(fractionByBig(a, p, base, p-1))))
	}
	return turns
}

// wordsToSay returns all lists of numbers in 1..3 of at most 7 numbers, and some longer ones.
func wordsToSay() [][]int {
	var words [][]int
	for length := range 8 {
		words = append(words, allLists(length, 1, 3)...)
	}
	for number := 1; number <= 9; number++ {
		for length := 1; length <= mostInStretch; length++ {
			stretch := slices.Repeat([]int{number}, length)
			words = append(words, stretch, append([]int{number%9 + 1}, stretch...), append(stretch, number%9+1))
		}
	}
	for _, length := range []int{8, 50, 199, 200} {
		words = append(words, zigzag(length))
	}
	for length := 200; length <= mostSaid; length += 40 {
		words = append(words, slices.Repeat([]int{1, 1, 1, 2, 2, 3, 3, 3, 3, 9}, length/10))
	}
	return append(words, slices.Repeat([]int{5, 5, 5, 5, 5, 5, 5, 5, 5, 8}, mostSaid/10))
}

// fractionsToTry returns denominators: all small ones, those of bases, of long periods and the greatest ones.
func fractionsToTry() []int {
	ns := []int{81, 96, 99, 101, 128, 243, 271, 401, 512, 729, 802, 809, 999, 1000, 1001, 1024, 1458, 1601, 1618, 1717, 1883, 1999}
	for n := 1; n <= 60; n++ {
		ns = append(ns, n)
	}
	return append(ns, mostFraction-1, mostFraction)
}

// numeratorsToTry returns all of a small denominator, and some of a greater one.
func numeratorsToTry(n int) []int {
	var as []int
	for a := range n {
		if n <= 60 || a < 3 || a > n-3 || a%127 == 0 || n%(a+1) == 0 {
			as = append(as, a)
		}
	}
	return as
}
