package tests

import (
	"fmt"
	"math"
	"slices"
	"strings"
	"testing"

	"loop.example/g01151/impl"
)

func TestTheMapOfOneNumber(t *testing.T) {
	one := []int{0}
	if impl.MaxMapped != mostMapped || !impl.IsMap(one) {
		t.Error("no map", impl.MaxMapped)
	}
	checkInts(t, 0, 0, []wantInt{
		pair(impl.ApplyMap(one, 0, 0)).is("ApplyMap", 0, true),
		pair(impl.ApplyMap(one, 0, 1000000)).is("ApplyMap", 0, true),
		pair(impl.CountFixedBy(one, 0)).is("CountFixedBy", 1, true),
		pair(impl.CountFixedBy(one, 1000000)).is("CountFixedBy", 1, true),
	})
	depth, length, ok := impl.TailAndCycle(one, 0)
	if depth != 0 || length != 1 || !ok {
		t.Error("TailAndCycle", depth, length, ok)
	}
	s, d, ok := impl.WhenSteady(one)
	if s != 0 || d != 1 || !ok {
		t.Error("WhenSteady", s, d, ok)
	}
	cycles, ok := impl.CyclesOfMap(one)
	if !ok || len(cycles) != 1 || !slices.Equal(cycles[0], one) {
		t.Error("CyclesOfMap", cycles, ok)
	}
	for name, call := range mapCalls {
		want := one
		switch name {
		case "EndsOf":
			want = nil
		case "ImagesOf":
			want = []int{1}
		}
		got, ok := call(one)
		checkList(t, name, one, got, ok, want)
	}
	before, ok := impl.BeforeOf(one, 0)
	checkList(t, "BeforeOf", one, before, ok, one)
	both, ok := impl.ComposeMaps(one, one)
	checkList(t, "ComposeMaps", one, both, ok, one)
	other, ok := impl.RenameMap(one, one)
	checkList(t, "RenameMap", one, other, ok, one)
	if alike, ok := impl.AreMapsAlike(one, one); !alike || !ok {
		t.Error("AreMapsAlike", alike, ok)
	}
}

func TestCyclesOfOne(t *testing.T) {
	for n := 1; n <= mostMapped; n++ {
		all := identity(n)
		cycles, ok := impl.CyclesOfMap(all)
		if !ok || len(cycles) != n {
			t.Fatal("CyclesOfMap", cycles, ok)
		}
		for x, cycle := range cycles {
			if !slices.Equal(cycle, []int{x}) {
				t.Fatal("CyclesOfMap", cycles)
			}
		}
		if s, d, ok := impl.WhenSteady(all); s != 0 || d != 1 || !ok {
			t.Error("WhenSteady", n, s, d, ok)
		}
		if name, ok := impl.NameOfMap(all); name != strings.Repeat("[()]", n) || !ok {
			t.Error("NameOfMap", n, name, ok)
		}
		last := slices.Repeat([]int{n - 1}, n)
		if name, ok := impl.NameOfMap(last); name != "[("+strings.Repeat("()", n-1)+")]" || !ok {
			t.Error("NameOfMap", n, name, ok)
		}
	}
}

func TestNumbersOfStepsAtTheLimits(t *testing.T) {
	for _, next := range greatMaps() {
		none, ok := impl.PowerOfMap(next, 0)
		checkList(t, "PowerOfMap by 0", next, none, ok, identity(len(next)))
		if fixed, ok := impl.CountFixedBy(next, 0); fixed != len(next) || !ok {
			t.Errorf("CountFixedBy 0 steps of %v: %d %v", next, fixed, ok)
		}
		for x := range next {
			if got, ok := impl.ApplyMap(next, x, 0); got != x || !ok {
				t.Errorf("ApplyMap 0 times to %d by %v: %d %v", x, next, got, ok)
			}
		}
	}
	next := manyLengths()
	end := identity(len(next))
	for range 1000000 {
		for x := range end {
			end[x] = next[end[x]]
		}
	}
	power, ok := impl.PowerOfMap(next, 1000000)
	checkList(t, "PowerOfMap by 1000000", next, power, ok, end)
	for x := range next {
		if got, ok := impl.ApplyMap(next, x, 1000000); got != end[x] || !ok {
			t.Errorf("ApplyMap 1000000 times to %d: %d %v", x, got, ok)
		}
	}
}

func TestLeastCommonMultiples(t *testing.T) {
	for _, c := range []struct {
		next []int
		s, d int
	}{
		{circles(60), 0, 60},
		{circles(30, 30), 0, 30},
		{circles(6, 10, 15), 0, 30},
		{circles(4, 6), 0, 12},
		{circles(8, 4, 2, 1), 0, 8},
		{circles(2, 3, 5, 7, 11, 13, 17), 0, 510510},
		{withTail(circles(2, 3, 5, 7, 11, 13, 17), 2), 2, 510510},
		{circles(4, 3, 5, 7, 11, 13, 17), 0, 1021020},
		{withTail(circles(2, 3), 55), 55, 6},
		{withTail([]int{0}, 59), 59, 1},
		{make([]int, 60), 1, 1},
		{manyLengths(), 17, 60060},
	} {
		if len(c.next) > mostMapped {
			t.Fatal("too many numbers", len(c.next))
		}
		if s, d, ok := impl.WhenSteady(c.next); s != c.s || d != c.d || !ok {
			t.Errorf("WhenSteady of %v: %d %d %v, want %d %d", c.next, s, d, ok, c.s, c.d)
		}
	}
	if fixed, ok := impl.CountFixedBy(manyLengths(), 16*60060); fixed != 43 || !ok {
		t.Error("CountFixedBy a multiple of all lengths", fixed, ok)
	}
	if fixed, ok := impl.CountFixedBy(manyLengths(), 60060/13); fixed != 30 || !ok {
		t.Error("CountFixedBy a multiple of all lengths but one", fixed, ok)
	}
}

// No cycles of at most 60 numbers together have lengths with a multiple beyond the limit of 10^15, so that WhenSteady never fails for a map.
func TestTheGreatestLeastCommonMultiple(t *testing.T) {
	greatest := make([]int, mostMapped+1)
	for i := range greatest {
		greatest[i] = 1
	}
	for p := 2; p <= mostMapped; p++ {
		if slices.ContainsFunc(identity(p)[2:], func(d int) bool { return p%d == 0 }) {
			continue
		}
		for sum := mostMapped; sum >= p; sum-- {
			for q := p; q <= sum; q *= p {
				greatest[sum] = max(greatest[sum], greatest[sum-q]*q)
			}
		}
	}
	if greatest[mostMapped] != 1021020 {
		t.Error("the greatest multiple is", greatest[mostMapped])
	}
	if _, d, ok := impl.WhenSteady(circles(4, 3, 5, 7, 11, 13, 17)); d != greatest[mostMapped] || !ok {
		t.Error("WhenSteady", d, ok)
	}
}

func TestMapsOfAsManyNumbersAsAllowed(t *testing.T) {
	for _, next := range greatMaps() {
		if len(next) < mostMapped {
			continue
		}
		more := append(slices.Clone(next), 0)
		if !impl.IsMap(next) || impl.IsMap(more) {
			t.Errorf("IsMap of %v: %v, and of one number more: %v", next, impl.IsMap(next), impl.IsMap(more))
		}
	}
	chain := withTail([]int{0}, 59)
	if name, ok := impl.NameOfMap(chain); name != "["+strings.Repeat("(", 60)+strings.Repeat(")", 60)+"]" || !ok {
		t.Error("NameOfMap of a chain", name, ok)
	}
	if depth, length, ok := impl.TailAndCycle(chain, 59); depth != 59 || length != 1 || !ok {
		t.Error("TailAndCycle of a chain", depth, length, ok)
	}
	images, ok := impl.ImagesOf(chain)
	want := identity(61)[1:]
	slices.Reverse(want)
	checkList(t, "ImagesOf", chain, images, ok, want)
}

func TestEndsOfMapsWithoutEnds(t *testing.T) {
	for _, next := range [][]int{{0}, {1, 0}, identity(60), circles(60), circles(1, 59)} {
		ends, ok := impl.EndsOf(next)
		checkList(t, "EndsOf", next, ends, ok, nil)
		images, ok := impl.ImagesOf(next)
		checkList(t, "ImagesOf", next, images, ok, []int{len(next)})
	}
}

func TestNumbersBeforeAnEnd(t *testing.T) {
	before, ok := impl.BeforeOf(make([]int, 60), 59)
	checkList(t, "BeforeOf", nil, before, ok, nil)
	before, ok = impl.BeforeOf(make([]int, 60), 0)
	checkList(t, "BeforeOf", nil, before, ok, identity(60))
}

func TestNamesThatRepeatOrLeaveOut(t *testing.T) {
	for n := 2; n <= 4; n++ {
		for _, names := range allMaps(n) {
			once := countDifferent(names) == n
			other, ok := impl.RenameMap(identity(n), names)
			if ok != once || !once && len(other) != 0 {
				t.Errorf("RenameMap by %v: %v %v", names, other, ok)
			}
		}
	}
	all := identity(60)
	for _, names := range [][]int{
		nil, {}, {0}, all[:59], all[1:], append(identity(60), 60), append(identity(60), 0), make([]int, 60), slices.Repeat([]int{59}, 60),
		append(identity(59), 58), append(identity(59), 60), append(identity(59), -1), append(identity(59), math.MaxInt), append(identity(59), math.MinInt),
		append([]int{1}, all[1:]...), make([]int, 61), make([]int, 1000),
	} {
		if other, ok := impl.RenameMap(circles(60), names); len(other) != 0 || ok {
			t.Errorf("RenameMap by %v: %v %v", names, other, ok)
		}
	}
}

// Names that have each number once, but those of a map of fewer or more numbers.
func TestNamesOfAnotherNumberOfNumbers(t *testing.T) {
	for _, n := range []int{1, 2, 3, 4, 30, 59, 60} {
		for _, m := range []int{1, 2, 3, 4, 30, 59, 60} {
			for _, names := range someNames(m) {
				other, ok := impl.RenameMap(circles(n), names)
				if ok != (n == m) || !ok && len(other) != 0 {
					t.Errorf("RenameMap of %d numbers by %v: %v %v", n, names, other, ok)
				}
			}
		}
	}
}

func TestMapsThatAreNotAlike(t *testing.T) {
	for _, c := range [][2][]int{
		{{0}, {0, 0}},
		{{0, 1}, {1, 0}},
		{circles(60), circles(30, 30)},
		{circles(60), circles(59)},
		{identity(60), identity(59)},
		{withTail([]int{0}, 59), withTail([]int{0}, 58)},
		{{1, 2, 0, 0, 2, 2}, {1, 2, 0, 2, 2, 1}}, // the same trees, the other way round
		{{1, 2, 3, 0, 0, 1}, {1, 2, 3, 0, 0, 2}}, // the same trees, beside and across
		{{0, 0, 0, 1}, {0, 0, 1, 1}},
	} {
		for _, p := range [][2][]int{{c[0], c[1]}, {c[1], c[0]}} {
			if alike, ok := impl.AreMapsAlike(p[0], p[1]); alike || !ok {
				t.Errorf("AreMapsAlike of %v and %v: %v %v", p[0], p[1], alike, ok)
			}
		}
	}
}

func TestMapsOfDifferentSizesAreNotComposed(t *testing.T) {
	for _, n := range []int{1, 2, 3, 59, 60} {
		for _, m := range []int{1, 2, 3, 59, 60} {
			both, ok := impl.ComposeMaps(make([]int, n), make([]int, m))
			if ok != (n == m) || !ok && len(both) != 0 {
				t.Error(fmt.Sprint("ComposeMaps of ", n, " and ", m, " numbers"), both, ok)
			}
		}
	}
}
