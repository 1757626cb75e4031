package tests

import (
	"slices"
	"testing"

	"loop.example/g01151/impl"
)

func TestPowersOfZero(t *testing.T) {
	for _, base := range bases {
		for p := 1; p <= mostPower; p++ {
			checkInts(t, 0, base, []wantInt{
				pair(impl.PowerSum(0, base, p)).is("PowerSum", 0, true),
				pair(impl.LeastWithSum(0, base, p)).is("LeastWithSum", 0, true),
			})
			if p > mostCycled {
				continue
			}
			run, ok := impl.PowerRun(0, base, p)
			checkNumbers(t, "PowerRun of 0", base, p, run, ok, []int{0})
			if tail, cycle, ok := impl.PowerTail(0, base, p); tail != 0 || cycle != 1 || !ok {
				t.Error("PowerTail of 0", base, p, tail, cycle, ok)
			}
			checkInts(t, 0, base, []wantInt{pair(impl.EndsIn(0, base, p)).is("EndsIn", 0, true)})
		}
		if happy, ok := impl.IsHappy(0, base); happy || !ok {
			t.Error("IsHappy of 0", base, happy, ok)
		}
		none, ok := impl.HappyUpTo(0, base)
		checkNumbers(t, "HappyUpTo", base, 0, none, ok, nil)
	}
	for _, base := range searchedBases {
		checkInts(t, 0, base, []wantInt{pair(impl.CountHappy(0, base)).is("CountHappy", 0, true)})
		spread, ok := impl.SumsSpread(0, base)
		checkNumbers(t, "SumsSpread", base, 0, spread, ok, []int{1})
	}
}

// For a power of 1 sums are digit sums: all digits are their own sums, and each run ends at the digital root.
func TestPowersOfOne(t *testing.T) {
	for _, base := range bases {
		for _, n := range numbersToTry(base) {
			root, _ := impl.DigitalRoot(n, base)
			sum, _ := impl.DigitSum(n, base)
			checkInts(t, n, base, []wantInt{
				pair(impl.PowerSum(n, base, 1)).is("PowerSum", sum, true),
				pair(impl.EndsIn(n, base, 1)).is("EndsIn", root, true),
			})
		}
		// 2 (base - 1) is not less than base, but 3 (base - 1) is less than base^2.
		checkInts(t, 1, base, []wantInt{
			pair(impl.FallsFrom(base, 1)).is("FallsFrom", 3, true),
			pair(impl.GreatestSum(base, 1)).is("GreatestSum", 2*(base-1), true),
		})
	}
	for _, base := range searchedBases {
		digits := identity(base)
		var want [][]int
		for d := range base {
			want = append(want, []int{d})
		}
		checkCycles(t, base, 1, want)
		own, ok := impl.OwnPowers(base, 1)
		checkNumbers(t, "OwnPowers", base, 1, own, ok, digits)
		own, ok = impl.Narcissistic(1, base)
		checkNumbers(t, "Narcissistic", base, 1, own, ok, digits)
	}
}

func TestRunsThatBeginOnTheirCycles(t *testing.T) {
	for _, base := range searchedBases {
		for p := 1; p <= mostCycled; p++ {
			for _, cycle := range powerCyclesOf(base, p) {
				for i, n := range cycle {
					run, ok := impl.PowerRun(n, base, p)
					checkNumbers(t, "PowerRun", base, p, run, ok, slices.Concat(cycle[i:], cycle[:i]))
					if tail, length, ok := impl.PowerTail(n, base, p); tail != 0 || length != len(cycle) || !ok {
						t.Fatalf("PowerTail of %d in base %d for %d: %d %d %v", n, base, p, tail, length, ok)
					}
					if end, ok := impl.EndsIn(n, base, p); end != cycle[0] || !ok {
						t.Fatalf("EndsIn of %d in base %d for %d: %d %v", n, base, p, end, ok)
					}
				}
			}
		}
	}
	for _, base := range bases {
		for p := 1; p <= mostCycled; p++ {
			run, ok := impl.PowerRun(1, base, p)
			checkNumbers(t, "PowerRun of 1", base, p, run, ok, []int{1})
		}
	}
}

// In the bases 2 and 4 every number of at least 1 is happy; in the base 2 the runs for all powers end in 1.
func TestBasesInWhichAllRunsEndInOne(t *testing.T) {
	for _, base := range []int{2, 4} {
		checkCycles(t, base, 2, [][]int{{0}, {1}})
		all, ok := impl.HappyUpTo(2000, base)
		checkNumbers(t, "HappyUpTo", base, 2000, all, ok, identity(2001)[1:])
		for k := 0; k <= 12; k++ {
			checkInts(t, k, base, []wantInt{pair(impl.CountHappy(k, base)).is("CountHappy", powerOf(base, k)-1, true)})
		}
		for _, n := range numbersToTry(base) {
			if happy, ok := impl.IsHappy(n, base); happy != (n > 0) || !ok {
				t.Fatalf("IsHappy of %d in base %d: %v %v", n, base, happy, ok)
			}
		}
	}
	for p := 1; p <= mostCycled; p++ {
		checkCycles(t, 2, p, [][]int{{0}, {1}})
		for _, n := range numbersToTry(2) {
			checkInts(t, n, 2, []wantInt{pair(impl.EndsIn(n, 2, p)).is("EndsIn", min(n, 1), true)})
		}
	}
	for p := 1; p <= 6; p++ {
		own, ok := impl.OwnPowers(2, p)
		checkNumbers(t, "OwnPowers", 2, p, own, ok, []int{0, 1})
	}
}

// The powers of a base end in 1 at once. In these bases no other number up to the greatest sum ends in 1, though greater ones may.
func TestBasesInWhichNoOtherRunsEndInOne(t *testing.T) {
	for _, c := range []struct{ base, p int }{{3, 1}, {10, 1}, {16, 1}, {3, 2}, {7, 2}, {6, 4}, {12, 4}} {
		greatest, _ := impl.GreatestSum(c.base, c.p)
		for n := 1; n <= greatest; n++ {
			isPower := powerSumOf(n, c.base, 1) == 1
			end, ok := impl.EndsIn(n, c.base, c.p)
			if !ok || (end == 1) != isPower {
				t.Fatalf("EndsIn of %d in base %d for %d: %d %v", n, c.base, c.p, end, ok)
			}
		}
	}
	got, ok := impl.HappyUpTo(12, 3)
	checkNumbers(t, "HappyUpTo", 3, 12, got, ok, []int{1, 3, 9})
	got, ok = impl.HappyUpTo(108, 7)
	checkNumbers(t, "HappyUpTo", 7, 108, got, ok, []int{1, 7, 49})
	checkInts(t, 2, 0, []wantInt{
		pair(impl.CountHappy(2, 3)).is("CountHappy in base 3", 2, true),
		pair(impl.CountHappy(2, 7)).is("CountHappy in base 7", 2, true),
	})
}

func TestGreatNumbersAndPowers(t *testing.T) {
	checkInts(t, limit, 10, []wantInt{
		pair(impl.PowerSum(limit, 10, 8)).is("PowerSum", 1, true),
		pair(impl.PowerSum(limit-1, 10, 8)).is("PowerSum of twelve 9", 12*43046721, true),
		pair(impl.PowerSum(1<<36-1, 16, 8)).is("PowerSum of nine f", 9*2562890625, true),
		pair(impl.PowerSum(1<<39-1, 2, 8)).is("PowerSum of 39 ones", 39, true),
		pair(impl.FallsFrom(10, 8)).is("FallsFrom", 10, true),
		pair(impl.GreatestSum(10, 8)).is("GreatestSum", 9*43046721, true),
		pair(impl.FallsFrom(16, 8)).is("FallsFrom", 10, true),
		pair(impl.GreatestSum(16, 8)).is("GreatestSum", 9*2562890625, true),
		pair(impl.FallsFrom(3, 8)).is("FallsFrom", 8, true),
		pair(impl.GreatestSum(3, 8)).is("GreatestSum", 7*256, true),
		pair(impl.FallsFrom(10, 2)).is("FallsFrom", 4, true),
		pair(impl.GreatestSum(10, 2)).is("GreatestSum", 243, true),
		pair(impl.EndsIn(limit, 10, 4)).is("EndsIn", 1, true),
	})
	for p := 1; p <= mostPower; p++ { // 3 digits 1 are less than 4, but 2 are not less than 2
		checkInts(t, p, 2, []wantInt{
			pair(impl.FallsFrom(2, p)).is("FallsFrom", 3, true),
			pair(impl.GreatestSum(2, p)).is("GreatestSum", 2, true),
		})
	}
	if happy, ok := impl.IsHappy(limit, 10); !happy || !ok {
		t.Error("IsHappy of 10^12", happy, ok)
	}
	run, ok := impl.PowerRun(limit, 10, 4)
	checkNumbers(t, "PowerRun of 10^12", 10, 4, run, ok, []int{limit, 1})
	run, ok = impl.PowerRun(limit-1, 10, 1)
	checkNumbers(t, "PowerRun of 10^12 - 1", 10, 1, run, ok, []int{limit - 1, 108, 9})
}

func TestCountsOfTwelveDigits(t *testing.T) {
	for _, base := range searchedBases {
		spread, ok := impl.SumsSpread(12, base)
		if !ok || len(spread) != 12*(base-1)*(base-1)+1 || spread[0] != 1 || spread[1] != 12 || spread[len(spread)-1] != 1 {
			t.Error("SumsSpread of 12", base, len(spread), ok)
		}
		total := 0
		for _, numbers := range spread {
			total += numbers
		}
		if total != powerOf(base, 12) {
			t.Error("SumsSpread of 12", base, "counts", total)
		}
	}
}

func TestLeastWithSumMeetsTheLimit(t *testing.T) {
	checkInts(t, 0, 0, []wantInt{
		pair(impl.LeastWithSum(39, 2, 1)).is("LeastWithSum of 39 ones", 1<<39-1, true),
		pair(impl.LeastWithSum(40, 2, 1)).is("LeastWithSum of 40 ones", 0, false),
		pair(impl.LeastWithSum(2000, 2, 8)).is("LeastWithSum of 2000 ones", 0, false),
		pair(impl.LeastWithSum(108, 10, 1)).is("LeastWithSum of twelve 9", limit-1, true),
		pair(impl.LeastWithSum(109, 10, 1)).is("LeastWithSum beyond", 0, false),
		pair(impl.LeastWithSum(255, 3, 8)).is("LeastWithSum of 255 ones", 0, false),
		pair(impl.LeastWithSum(256, 3, 8)).is("LeastWithSum of a 2", 2, true),
		pair(impl.LeastWithSum(12, 10, 8)).is("LeastWithSum of twelve 1", 111111111111, true),
		pair(impl.LeastWithSum(13, 10, 8)).is("LeastWithSum of thirteen 1", 0, false),
		pair(impl.LeastWithSum(2000, 10, 2)).is("LeastWithSum of more than 24 digits", 0, false),
		pair(impl.LeastWithSum(50, 10, 2)).is("LeastWithSum of 17 and 55", 17, true),
		pair(impl.LeastWithSum(2000, 16, 3)).is("LeastWithSum of 10 and 10", 10*16+10, true),
	})
}
