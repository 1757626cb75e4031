package tests

import (
	"math"
	"slices"
	"testing"

	"loop.example/g01151/impl"
)

// Promise 11, for sums of powers.

var noPowers = []int{0, -1, -2, -8, 9, 10, 64, math.MaxInt, math.MinInt}

// powersBut returns powers beyond a limit, one more than it first, and below 1.
func powersBut(most int) []int { return append([]int{most + 1}, noPowers...) }

func checkNoInt(t *testing.T, name string, n int, ok bool) {
	t.Helper()
	if n != 0 || ok {
		t.Errorf("%s: %d %v", name, n, ok)
	}
}

func checkNoList(t *testing.T, name string, list []int, ok bool) {
	t.Helper()
	if len(list) != 0 || ok {
		t.Errorf("%s: %v %v", name, list, ok)
	}
}

func checkNoSum(t *testing.T, n int, base int, p int) {
	t.Helper()
	sum, ok := impl.PowerSum(n, base, p)
	checkNoInt(t, "PowerSum", sum, ok)
}

func checkNoRun(t *testing.T, n int, base int, p int) {
	t.Helper()
	run, ok := impl.PowerRun(n, base, p)
	checkNoList(t, "PowerRun", run, ok)
	end, ok := impl.EndsIn(n, base, p)
	checkNoInt(t, "EndsIn", end, ok)
	if tail, cycle, ok := impl.PowerTail(n, base, p); tail != 0 || cycle != 0 || ok {
		t.Errorf("PowerTail of %d in base %d for %d: %d %d %v", n, base, p, tail, cycle, ok)
	}
}

func checkNotHappy(t *testing.T, n int, base int) {
	t.Helper()
	if happy, ok := impl.IsHappy(n, base); happy || ok {
		t.Errorf("IsHappy of %d in base %d: %v %v", n, base, happy, ok)
	}
}

func checkNoBound(t *testing.T, base int, p int) {
	t.Helper()
	k, ok := impl.FallsFrom(base, p)
	checkNoInt(t, "FallsFrom", k, ok)
	sum, ok := impl.GreatestSum(base, p)
	checkNoInt(t, "GreatestSum", sum, ok)
}

func checkNoCycles(t *testing.T, base int, p int) {
	t.Helper()
	if cycles, ok := impl.CyclesOfPowers(base, p); len(cycles) != 0 || ok {
		t.Errorf("CyclesOfPowers in base %d for %d: %v %v", base, p, cycles, ok)
	}
}

func checkNoOwn(t *testing.T, base int, p int) {
	t.Helper()
	own, ok := impl.OwnPowers(base, p)
	checkNoList(t, "OwnPowers", own, ok)
	own, ok = impl.Narcissistic(p, base)
	checkNoList(t, "Narcissistic", own, ok)
}

func checkNoSpread(t *testing.T, k int, base int) {
	t.Helper()
	spread, ok := impl.SumsSpread(k, base)
	checkNoList(t, "SumsSpread", spread, ok)
	count, ok := impl.CountHappy(k, base)
	checkNoInt(t, "CountHappy", count, ok)
}

func checkNoLeast(t *testing.T, sum int, base int, p int) {
	t.Helper()
	n, ok := impl.LeastWithSum(sum, base, p)
	checkNoInt(t, "LeastWithSum", n, ok)
}

func checkNoHappyList(t *testing.T, most int, base int) {
	t.Helper()
	happy, ok := impl.HappyUpTo(most, base)
	checkNoList(t, "HappyUpTo", happy, ok)
}

func TestNumbersBeyondTheLimitsOfPowers(t *testing.T) {
	for _, n := range noNumbers {
		for _, base := range slices.Concat(bases, noBases) {
			for _, p := range append([]int{1, 2, 3, 4, 5, 8}, noPowers...) {
				checkNoSum(t, n, base, p)
				checkNoRun(t, n, base, p)
			}
			checkNotHappy(t, n, base)
		}
	}
}

func TestBasesBeyondTheLimitsOfPowers(t *testing.T) {
	for _, base := range noBases {
		for _, p := range append([]int{1, 2, 3, 4, 5, 8}, noPowers...) {
			for _, n := range []int{0, 1, 2, 7, limit} {
				checkNoSum(t, n, base, p)
				checkNoRun(t, n, base, p)
				checkNotHappy(t, n, base)
				checkNoLeast(t, n, base, p)
				checkNoHappyList(t, n, base)
			}
			checkNoBound(t, base, p)
		}
	}
	// Searches allow only bases of at most 10.
	for _, base := range append([]int{11, 12, 13, 14, 15, 16}, noBases...) {
		for n := range 13 {
			checkNoCycles(t, base, n)
			checkNoOwn(t, base, n)
			checkNoSpread(t, n, base)
		}
	}
}

func TestPowersBeyondTheLimits(t *testing.T) {
	for _, base := range slices.Concat(bases, noBases) {
		for _, n := range []int{0, 1, 2, 7, 2000, limit} {
			for _, p := range powersBut(8) {
				checkNoSum(t, n, base, p)
				checkNoLeast(t, n, base, p)
			}
			for _, p := range powersBut(4) {
				checkNoRun(t, n, base, p)
			}
		}
		for _, p := range powersBut(8) {
			checkNoBound(t, base, p)
		}
		for _, p := range powersBut(4) {
			checkNoCycles(t, base, p)
		}
		for _, p := range powersBut(6) {
			checkNoOwn(t, base, p)
		}
	}
}

func TestWidthsSumsAndBoundsBeyondTheLimits(t *testing.T) {
	for _, base := range slices.Concat(bases, noBases) {
		for _, k := range []int{-1, -2, -12, 13, 14, 100, math.MaxInt, math.MinInt} {
			checkNoSpread(t, k, base)
		}
		for _, most := range []int{-1, -2, -2000, 2001, 2002, limit, math.MaxInt, math.MinInt} {
			checkNoHappyList(t, most, base)
			for _, p := range append([]int{1, 2, 4, 8}, noPowers...) {
				checkNoLeast(t, most, base, p)
			}
		}
	}
}

func TestPowersAndBasesAtTheLimits(t *testing.T) {
	for _, base := range []int{2, 16} {
		for _, n := range []int{0, limit} {
			for _, p := range []int{1, 8} {
				if _, ok := impl.PowerSum(n, base, p); !ok {
					t.Error("PowerSum fails", n, base, p)
				}
			}
			for _, p := range []int{1, 4} {
				_, runOK := impl.PowerRun(n, base, p)
				_, _, tailOK := impl.PowerTail(n, base, p)
				_, endOK := impl.EndsIn(n, base, p)
				if !runOK || !tailOK || !endOK {
					t.Error("a run fails", n, base, p, runOK, tailOK, endOK)
				}
			}
		}
		if _, ok := impl.HappyUpTo(2000, base); !ok {
			t.Error("HappyUpTo fails", base)
		}
	}
	for _, base := range []int{2, 10} {
		_, cyclesOK := impl.CyclesOfPowers(base, 4)
		_, ownOK := impl.OwnPowers(base, 6)
		_, wideOK := impl.Narcissistic(6, base)
		_, countOK := impl.CountHappy(12, base)
		if !cyclesOK || !ownOK || !wideOK || !countOK {
			t.Error("a search fails", base, cyclesOK, ownOK, wideOK, countOK)
		}
	}
	if n, ok := impl.LeastWithSum(2000, 16, 8); n != 0 || ok {
		t.Error("LeastWithSum of more digits than a number has", n, ok)
	}
}

func TestResultsOfPowersAreNew(t *testing.T) {
	for name, call := range map[string]func() ([]int, bool){
		"PowerRun":              func() ([]int, bool) { return impl.PowerRun(7, 10, 2) },
		"PowerRun on its cycle": func() ([]int, bool) { return impl.PowerRun(4, 10, 2) },
		"HappyUpTo":             func() ([]int, bool) { return impl.HappyUpTo(100, 10) },
		"SumsSpread":            func() ([]int, bool) { return impl.SumsSpread(3, 10) },
		"OwnPowers":             func() ([]int, bool) { return impl.OwnPowers(10, 3) },
		"Narcissistic":          func() ([]int, bool) { return impl.Narcissistic(3, 10) },
	} {
		first, _ := call()
		want := slices.Clone(first)
		second, _ := call()
		fill(first)
		third, _ := call()
		if !slices.Equal(second, want) || !slices.Equal(third, want) {
			t.Error(name, "results share memory", second, third)
		}
	}
	cycles, _ := impl.CyclesOfPowers(10, 3)
	want, _ := impl.CyclesOfPowers(10, 3)
	for i := range cycles {
		fill(cycles[i])
		for j := i + 1; j < len(cycles); j++ {
			if !slices.Equal(cycles[j], want[j]) {
				t.Fatal("cycles share memory", i, j)
			}
		}
	}
	if again, _ := impl.CyclesOfPowers(10, 3); !slices.EqualFunc(again, want, slices.Equal[[]int]) {
		t.Error("cycles are kept", again)
	}
}
