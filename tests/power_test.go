package tests

import (
	"slices"
	"testing"

	"loop.example/g01151/impl"
)

// Promise 3: runs of power sums end in one of the told cycles, and happy numbers are counted by sums of squares.

func checkNumbers(t *testing.T, name string, base int, p int, got []int, ok bool, want []int) {
	t.Helper()
	if !ok || !slices.Equal(got, want) {
		t.Fatalf("%s in base %d for %d: %v %v, want %v", name, base, p, got, ok, want)
	}
}

func checkCycles(t *testing.T, base int, p int, want [][]int) {
	t.Helper()
	cycles, ok := impl.CyclesOfPowers(base, p)
	if !ok || !slices.EqualFunc(cycles, want, slices.Equal[[]int]) {
		t.Fatalf("CyclesOfPowers in base %d for %d: %v %v, want %v", base, p, cycles, ok, want)
	}
}

func TestLimitsOfPowersAreThoseOfTheDocument(t *testing.T) {
	if impl.MaxPower != mostPower || impl.MaxCycled != mostCycled {
		t.Error(impl.MaxPower, impl.MaxCycled)
	}
}

func TestExampleOfPowers(t *testing.T) {
	run, ok := impl.PowerRun(7, 10, 2)
	checkNumbers(t, "PowerRun of 7", 10, 2, run, ok, []int{7, 49, 97, 130, 10, 1})
	if happy, ok := impl.IsHappy(7, 10); !happy || !ok {
		t.Error("7 is not happy", ok)
	}
	checkCycles(t, 10, 2, [][]int{{0}, {1}, {4, 16, 37, 58, 89, 145, 42, 20}})
	own, ok := impl.Narcissistic(3, 10)
	checkNumbers(t, "Narcissistic", 10, 3, own, ok, []int{153, 370, 371, 407})
}

func TestPowerSums(t *testing.T) {
	for _, base := range bases {
		numbers := numbersToTry(base)
		for p := 1; p <= mostPower; p++ {
			for _, n := range numbers {
				want := powerSumOf(n, base, p)
				if sum, ok := impl.PowerSum(n, base, p); sum != want || !ok {
					t.Fatalf("PowerSum of %d in base %d for %d: %d %v, want %d", n, base, p, sum, ok, want)
				}
			}
		}
	}
}

func TestRunsOfPowers(t *testing.T) {
	for _, base := range bases {
		numbers := numbersToTry(base)
		for p := 1; p <= mostCycled; p++ {
			for _, n := range numbers {
				want, tail := powerRunOf(n, base, p)
				run, ok := impl.PowerRun(n, base, p)
				checkNumbers(t, "PowerRun", base, p, run, ok, want)
				gotTail, gotCycle, ok := impl.PowerTail(n, base, p)
				if gotTail != tail || gotCycle != len(want)-tail || !ok {
					t.Fatalf("PowerTail of %d in base %d for %d: %d %d %v, want %d %d", n, base, p, gotTail, gotCycle, ok, tail, len(want)-tail)
				}
				end := slices.Min(want[tail:])
				if got, ok := impl.EndsIn(n, base, p); got != end || !ok {
					t.Fatalf("EndsIn of %d in base %d for %d: %d %v, want %d", n, base, p, got, ok, end)
				}
			}
		}
	}
}

// The least number in which a run ends is told, the numbers of its cycle are the told ones, and so none is beyond the greatest sum.
func TestRunsEndInToldCycles(t *testing.T) {
	for _, base := range searchedBases {
		numbers := numbersToTry(base)
		for p := 1; p <= mostCycled; p++ {
			cycles, ok := impl.CyclesOfPowers(base, p)
			greatest, greatestOK := impl.GreatestSum(base, p)
			if !ok || !greatestOK {
				t.Fatal("CyclesOfPowers or GreatestSum fails", base, p)
			}
			for _, n := range numbers {
				run, _ := impl.PowerRun(n, base, p)
				tail, _, _ := impl.PowerTail(n, base, p)
				end, _ := impl.EndsIn(n, base, p)
				at := slices.IndexFunc(cycles, func(cycle []int) bool { return cycle[0] == end })
				if at < 0 {
					t.Fatalf("the run of %d in base %d for %d ends in %d, which begins no told cycle", n, base, p, end)
				}
				first := slices.Index(cycles[at], run[tail])
				if first < 0 || !slices.Equal(run[tail:], slices.Concat(cycles[at][first:], cycles[at][:first])) {
					t.Fatalf("the run of %d in base %d for %d ends in no told cycle: %v", n, base, p, run)
				}
				if slices.Max(run[tail:]) > greatest {
					t.Fatalf("the cycle of %d in base %d for %d goes beyond %d: %v", n, base, p, greatest, run)
				}
			}
		}
	}
}

func TestCyclesOfPowers(t *testing.T) {
	for _, base := range searchedBases {
		for p := 1; p <= mostCycled; p++ {
			checkCycles(t, base, p, powerCyclesOf(base, p))
		}
	}
	checkCycles(t, 10, 3, [][]int{{0}, {1}, {55, 250, 133}, {136, 244}, {153}, {160, 217, 352}, {370}, {371}, {407}, {919, 1459}})
	checkCycles(t, 10, 4, [][]int{{0}, {1}, {1138, 4179, 9219, 13139, 6725, 4338, 4514}, {1634}, {2178, 6514}, {8208}, {9474}})
}

func TestNumbersFall(t *testing.T) {
	for _, base := range bases {
		for p := 1; p <= mostPower; p++ {
			k := fallsFromOf(base, p)
			if got, ok := impl.FallsFrom(base, p); got != k || !ok {
				t.Errorf("FallsFrom in base %d for %d: %d %v, want %d", base, p, got, ok, k)
			}
			// The number whose digits are all base - 1 has the greatest sum, as it has in each place the greatest power.
			greatest := powerSumOf(powerOf(base, k-1)-1, base, p)
			if got, ok := impl.GreatestSum(base, p); got != greatest || !ok {
				t.Errorf("GreatestSum in base %d for %d: %d %v, want %d", base, p, got, ok, greatest)
			}
			for _, n := range numbersToTry(base) {
				if sum, _ := impl.PowerSum(n, base, p); n >= powerOf(base, k-1) && sum >= n {
					t.Fatalf("PowerSum of %d in base %d for %d does not fall: %d", n, base, p, sum)
				}
			}
		}
	}
}

func TestGreatestSumsOfAllSmallNumbers(t *testing.T) {
	for _, base := range bases {
		for p := 1; p <= mostPower; p++ {
			bound := powerOf(base, fallsFromOf(base, p)-1)
			if bound > 1<<17 {
				continue
			}
			want := slices.Max(sumTable(bound, base, p))
			if got, ok := impl.GreatestSum(base, p); got != want || !ok {
				t.Errorf("GreatestSum in base %d for %d: %d %v, want %d", base, p, got, ok, want)
			}
		}
	}
}

func TestHappyNumbers(t *testing.T) {
	for _, base := range bases {
		var want []int
		for n := range 2001 {
			happy := isHappyOf(n, base)
			if happy {
				want = append(want, n)
			}
			if got, ok := impl.IsHappy(n, base); got != happy || !ok {
				t.Fatalf("IsHappy of %d in base %d: %v %v", n, base, got, ok)
			}
		}
		for _, most := range []int{0, 1, 2, 6, 7, 8, 9, 10, 49, 97, 100, 1000, 1999, 2000} {
			below, _ := slices.BinarySearch(want, most+1)
			got, ok := impl.HappyUpTo(most, base)
			checkNumbers(t, "HappyUpTo", base, most, got, ok, want[:below])
		}
		for _, n := range numbersToTry(base)[1200:] {
			if got, ok := impl.IsHappy(n, base); got != isHappyOf(n, base) || !ok {
				t.Fatalf("IsHappy of %d in base %d: %v %v", n, base, got, ok)
			}
		}
	}
	got, ok := impl.HappyUpTo(50, 10)
	checkNumbers(t, "HappyUpTo", 10, 50, got, ok, []int{1, 7, 10, 13, 19, 23, 28, 31, 32, 44, 49})
}

func TestCountsOfHappyNumbers(t *testing.T) {
	for _, base := range searchedBases {
		for k := 0; k <= 12; k++ {
			want := 0
			for sum, numbers := range spreadOf(k, base) {
				if isHappyOf(sum, base) {
					want += numbers
				}
			}
			if got, ok := impl.CountHappy(k, base); got != want || !ok {
				t.Fatalf("CountHappy of %d digits in base %d: %d %v, want %d", k, base, got, ok, want)
			}
		}
	}
	// The known counts of the happy numbers below the powers of 10.
	for k, want := range []int{0, 2, 19, 142, 1441, 14376, 143070, 1418853, 14255666, 145674807, 1492609147, 15091199356, 149121303585} {
		if got, ok := impl.CountHappy(k, 10); got != want || !ok {
			t.Errorf("CountHappy of %d digits in base 10: %d %v, want %d", k, got, ok, want)
		}
	}
}

func TestSumsSpread(t *testing.T) {
	for _, base := range searchedBases {
		for k := 0; k <= 12; k++ {
			spread, ok := impl.SumsSpread(k, base)
			checkNumbers(t, "SumsSpread", base, k, spread, ok, spreadOf(k, base))
		}
	}
}

// Sums and happy numbers of few digits are counted one after the other.
func TestCountsOfAllSmallNumbers(t *testing.T) {
	for _, base := range searchedBases {
		for k, end := 0, 1; end <= 20000 && k <= 12; k, end = k+1, end*base {
			want, happy := make([]int, k*(base-1)*(base-1)+1), 0
			for n, sum := range sumTable(end, base, 2) {
				want[sum]++
				if isHappyOf(n, base) {
					happy++
				}
			}
			spread, ok := impl.SumsSpread(k, base)
			checkNumbers(t, "SumsSpread", base, k, spread, ok, want)
			if got, ok := impl.CountHappy(k, base); got != happy || !ok {
				t.Errorf("CountHappy of %d digits in base %d: %d %v, want %d", k, base, got, ok, happy)
			}
		}
	}
}

func TestNumbersThatAreTheirOwnSums(t *testing.T) {
	for _, base := range searchedBases {
		for p := 1; p <= 6; p++ {
			want := ownPowersOf(base, p)
			own, ok := impl.OwnPowers(base, p)
			checkNumbers(t, "OwnPowers", base, p, own, ok, want)
			var wide []int
			for _, n := range want {
				if len(textOf(n, base)) == p {
					wide = append(wide, n)
				}
			}
			own, ok = impl.Narcissistic(p, base)
			checkNumbers(t, "Narcissistic", base, p, own, ok, wide)
		}
	}
	for p, want := range [][]int{
		1: {0, 1, 2, 3, 4, 5, 6, 7, 8, 9}, 2: {0, 1}, 3: {0, 1, 153, 370, 371, 407}, 4: {0, 1, 1634, 8208, 9474},
		5: {0, 1, 4150, 4151, 54748, 92727, 93084, 194979}, 6: {0, 1, 548834},
	} {
		if p > 0 {
			own, ok := impl.OwnPowers(10, p)
			checkNumbers(t, "OwnPowers", 10, p, own, ok, want)
		}
	}
	for k, want := range [][]int{
		1: {0, 1, 2, 3, 4, 5, 6, 7, 8, 9}, 2: nil, 3: {153, 370, 371, 407}, 4: {1634, 8208, 9474}, 5: {54748, 92727, 93084}, 6: {548834},
	} {
		if k > 0 {
			own, ok := impl.Narcissistic(k, 10)
			checkNumbers(t, "Narcissistic", 10, k, own, ok, want)
		}
	}
}

// The cycles of one number are the numbers that are their own sums.
func TestOwnSumsAreCyclesOfOne(t *testing.T) {
	for _, base := range searchedBases {
		for p := 1; p <= mostCycled; p++ {
			cycles, _ := impl.CyclesOfPowers(base, p)
			var want []int
			for _, cycle := range cycles {
				if len(cycle) == 1 {
					want = append(want, cycle[0])
				}
			}
			own, ok := impl.OwnPowers(base, p)
			checkNumbers(t, "OwnPowers", base, p, own, ok, want)
		}
	}
}

func TestLeastNumbersWithSums(t *testing.T) {
	for _, base := range bases {
		for p := 1; p <= mostPower; p++ {
			for sum, want := range leastWithSums(2000, base, p) {
				got, ok := impl.LeastWithSum(sum, base, p)
				if ok != (want >= 0) || got != max(want, 0) {
					t.Fatalf("LeastWithSum of %d in base %d for %d: %d %v, want %d", sum, base, p, got, ok, want)
				}
			}
		}
	}
}

// The first numbers with each sum, found one after the other.
func TestLeastNumbersAmongAllSmallOnes(t *testing.T) {
	const end = 40000
	for _, base := range bases {
		for p := 1; p <= mostPower; p++ {
			first := map[int]int{}
			for n, sum := range sumTable(end, base, p) {
				if _, ok := first[sum]; !ok {
					first[sum] = n
				}
			}
			for sum := range 2001 {
				got, ok := impl.LeastWithSum(sum, base, p)
				if want, found := first[sum]; found && (got != want || !ok) || !found && ok && got < end {
					t.Fatalf("LeastWithSum of %d in base %d for %d: %d %v, want %d", sum, base, p, got, ok, want)
				}
			}
		}
	}
}
