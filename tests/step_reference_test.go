package tests

import (
	"math/big"
	"slices"
	"strings"
)

// The functions here go on by bits and beyond the limit, tell steps by those of lesser numbers and what comes back by fractions of big numbers, and come to cycles by going on for long, so that the tests share no method with the program.

const (
	mostSteps      = 1000
	mostLetters    = 20
	mostLevel      = 15
	mostRecord     = 2000
	mostStepAdded  = 99
	mostCycleStart = 200
)

func stepBehind(n int, d int) int {
	if n&1 == 1 {
		return n<<1 + n + d
	}
	return n >> 1
}

// wayOfSteps returns n and what is behind its steps up to 1, and nothing where that fails.
func wayOfSteps(n int) []int {
	way := []int{n}
	for n != 1 {
		n = stepBehind(n, 1)
		way = append(way, n)
		if n > limit || len(way)-1 > mostSteps {
			return nil
		}
	}
	return way
}

// stepsOfAll returns for all numbers from 2 how many steps lead to a lesser one, and for all from 1 how many lead to 1: those to a lesser one, and its own. What is at 0 has no meaning.
func stepsOfAll(most int) ([]int, []int) {
	falls, steps := make([]int, most+1), make([]int, most+1)
	for n := 2; n <= most; n++ {
		m := n
		for m >= n {
			m = stepBehind(m, 1)
			falls[n]++
		}
		steps[n] = falls[n] + steps[m]
	}
	return falls, steps
}

// shortWalk returns n and what is behind 1, 2, .., k short steps, also what is greater than the limit.
func shortWalk(n int, k int) []int {
	walk := []int{n}
	for range k {
		if n&1 == 1 {
			n = stepBehind(n, 1)
		}
		n >>= 1
		walk = append(walk, n)
	}
	return walk
}

// isWithinLimit reports whether all numbers of a walk are numbers of the chapter.
func isWithinLimit(walk []int) bool { return len(walk) == 0 || slices.Max(walk) <= limit }

func lettersOfWalk(walk []int) string {
	letters := ""
	for _, n := range walk {
		letters += string("01"[n&1])
	}
	return letters
}

// wordsOfLength returns all words of k letters in their order.
func wordsOfLength(k int) []string {
	words := []string{""}
	for range k {
		var longer []string
		for _, w := range words {
			longer = append(longer, w+"0", w+"1")
		}
		words = longer
	}
	return words
}

// sumOfWord adds up for each letter 1 what the document tells.
func sumOfWord(w string) int {
	sum := 0
	for i, letter := range w {
		if letter == '1' {
			sum += powerOf(2, i) * powerOf(3, strings.Count(w[i+1:], "1"))
		}
	}
	return sum
}

// takenAsTold takes the letters of a word one after the other, whether the fraction is even or not.
func takenAsTold(x *big.Rat, w string) *big.Rat {
	x = new(big.Rat).Set(x)
	for _, letter := range w {
		if letter == '1' {
			x.Mul(x, big.NewRat(3, 1))
			x.Add(x, big.NewRat(1, 1))
		}
		x.Quo(x, big.NewRat(2, 1))
	}
	return x
}

// fractionBack returns the x that comes back. A word makes a x + b of x, so that b comes of 0, and a + b of 1.
func fractionBack(w string) *big.Rat {
	one := big.NewRat(1, 1)
	b := takenAsTold(new(big.Rat), w)
	a := takenAsTold(one, w)
	a.Sub(a, b)
	return b.Quo(b, a.Sub(one, a))
}

// cyclesBySteps goes on for so long that it is on a cycle for certain, and then once around it.
func cyclesBySteps(d int, most int) [][]int {
	byLeast := map[int][]int{}
	for n := 1; n <= most; n++ {
		m := n
		for range mostSteps {
			m = stepBehind(m, d)
		}
		cycle := []int{m}
		for next := stepBehind(m, d); next != m; next = stepBehind(next, d) {
			cycle = append(cycle, next)
		}
		least := slices.Min(cycle)
		for cycle[0] != least {
			cycle = append(cycle[1:], cycle[0])
		}
		byLeast[least] = cycle
	}
	var cycles [][]int
	for n := 1; len(cycles) < len(byLeast); n++ {
		if cycle, ok := byLeast[n]; ok {
			cycles = append(cycles, cycle)
		}
	}
	return cycles
}

func stepsAdded() []int {
	var odd []int
	for d := 1; d <= mostStepAdded; d += 2 {
		odd = append(odd, d)
	}
	return odd
}

// startsToTry has all small numbers, the ones around powers of 2 and of 3 and around the greatest that a step leads from, and some that many steps lead from, within the limit or beyond it.
func startsToTry() []int {
	var numbers []int
	for n := 1; n <= 1200; n++ {
		numbers = append(numbers, n)
	}
	for _, base := range []int{2, 3} {
		for p := base; p <= limit; p *= base {
			numbers = append(numbers, p-1, p, p+1, 2*p-1, 2*p+1, 3*p-1)
		}
	}
	for _, around := range []int{limit, limit / 2, limit / 3, limit / 3 * 2, limit / 9 * 4, limit / 4} {
		for n := around - 12; n <= around+12; n++ {
			numbers = append(numbers, n)
		}
	}
	for k := range 300 {
		numbers = append(numbers, k*3333333331+k*k*k*37+k+1)
	}
	numbers = append(numbers, 6171, 77031, 837799, 8400511, 63728127, 670617279, 1412987847, 2*1412987847, 1674652263, 2610744987, 4578853915, 4890328815, 9780657631, 12235060455, 13371194527)
	return slices.DeleteFunc(numbers, func(n int) bool { return n < 1 || n > limit })
}
