package tests

import (
	"math"
	"slices"
	"testing"

	"loop.example/g01151/impl"
)

// Promise 11, for maps.

// noMaps are lists that are no maps.
func noMaps() [][]int {
	return [][]int{
		nil, {}, {1}, {-1}, {2}, {0, 2}, {0, -1}, {2, 0}, {-1, 0}, {1, 2, 3}, {0, 0, 4, 0},
		{math.MaxInt}, {math.MinInt}, {0, math.MaxInt}, {math.MinInt, 0},
		identity(61), make([]int, 61), make([]int, 1000), circles(61), withTail([]int{0}, 60),
		append(identity(59), 60), append(identity(59), -1), slices.Repeat([]int{60}, 60), slices.Repeat([]int{-1}, 60),
	}
}

var noSteps = []int{-1, -2, -1000000, 1000001, 1000002, 1 << 40, math.MaxInt, math.MinInt}

// mapCalls are the functions of a map that return a list.
var mapCalls = map[string]func([]int) ([]int, bool){
	"BasinsOf": impl.BasinsOf,
	"DepthsOf": impl.DepthsOf,
	"EndsOf":   impl.EndsOf,
	"ImagesOf": impl.ImagesOf,
}

func checkNoSteps(t *testing.T, next []int, x int, k int) {
	t.Helper()
	if y, ok := impl.ApplyMap(next, x, k); y != 0 || ok {
		t.Errorf("ApplyMap %d times to %d by %v: %d %v", k, x, next, y, ok)
	}
}

func checkNoNumber(t *testing.T, next []int, x int) {
	t.Helper()
	if depth, length, ok := impl.TailAndCycle(next, x); depth != 0 || length != 0 || ok {
		t.Errorf("TailAndCycle of %d by %v: %d %d %v", x, next, depth, length, ok)
	}
	if before, ok := impl.BeforeOf(next, x); len(before) != 0 || ok {
		t.Errorf("BeforeOf %d by %v: %v %v", x, next, before, ok)
	}
}

func checkNoPower(t *testing.T, next []int, k int) {
	t.Helper()
	if power, ok := impl.PowerOfMap(next, k); len(power) != 0 || ok {
		t.Errorf("PowerOfMap of %v by %d: %v %v", next, k, power, ok)
	}
	if fixed, ok := impl.CountFixedBy(next, k); fixed != 0 || ok {
		t.Errorf("CountFixedBy %d steps of %v: %d %v", k, next, fixed, ok)
	}
}

func checkNoPair(t *testing.T, f []int, g []int) {
	t.Helper()
	if both, ok := impl.ComposeMaps(f, g); len(both) != 0 || ok {
		t.Errorf("ComposeMaps of %v and %v: %v %v", f, g, both, ok)
	}
	if alike, ok := impl.AreMapsAlike(f, g); alike || ok {
		t.Errorf("AreMapsAlike of %v and %v: %v %v", f, g, alike, ok)
	}
}

func TestListsThatAreNoMaps(t *testing.T) {
	for _, list := range noMaps() {
		if impl.IsMap(list) {
			t.Errorf("%v is a map", list)
		}
		for name, call := range mapCalls {
			if got, ok := call(list); len(got) != 0 || ok {
				t.Errorf("%s of %v: %v %v", name, list, got, ok)
			}
		}
		if cycles, ok := impl.CyclesOfMap(list); len(cycles) != 0 || ok {
			t.Errorf("CyclesOfMap of %v: %v %v", list, cycles, ok)
		}
		if s, d, ok := impl.WhenSteady(list); s != 0 || d != 0 || ok {
			t.Errorf("WhenSteady of %v: %d %d %v", list, s, d, ok)
		}
		if name, ok := impl.NameOfMap(list); name != "" || ok {
			t.Errorf("NameOfMap of %v: %s %v", list, name, ok)
		}
		for _, names := range [][]int{identity(len(list)), list, {0}, nil} {
			if other, ok := impl.RenameMap(list, names); len(other) != 0 || ok {
				t.Errorf("RenameMap of %v by %v: %v %v", list, names, other, ok)
			}
		}
		for _, n := range append([]int{0, 1, 2, 1000000}, noSteps...) {
			checkNoSteps(t, list, n, n)
			checkNoSteps(t, list, 0, n)
			checkNoNumber(t, list, n)
			checkNoPower(t, list, n)
		}
		for _, other := range [][]int{list, identity(len(list)), {0}, make([]int, 60)} {
			checkNoPair(t, list, other)
			checkNoPair(t, other, list)
		}
	}
}

func TestNumbersThatAreNotOfTheMap(t *testing.T) {
	for _, next := range [][]int{{0}, {1, 0}, {1, 2, 0, 0}, circles(60), make([]int, 60)} {
		for _, x := range []int{-1, -2, len(next), len(next) + 1, 61, 1000, math.MaxInt, math.MinInt} {
			checkNoNumber(t, next, x)
			for _, k := range append([]int{0, 1, 1000000}, noSteps...) {
				checkNoSteps(t, next, x, k)
			}
		}
		for _, x := range []int{0, len(next) - 1} {
			if _, _, ok := impl.TailAndCycle(next, x); !ok {
				t.Errorf("TailAndCycle of %d by %v fails", x, next)
			}
		}
	}
}

func TestNumbersOfStepsBeyondTheLimits(t *testing.T) {
	for _, next := range mapsToTry()[:200] {
		for _, k := range noSteps {
			checkNoPower(t, next, k)
			checkNoSteps(t, next, 0, k)
			checkNoSteps(t, next, len(next)-1, k)
		}
	}
}

// callAll makes each call of the chapter with a map and another list.
func callAll(next []int, other []int) {
	for _, call := range mapCalls {
		call(next)
	}
	for _, x := range []int{-1, 0, 1, 59, 60} {
		impl.TailAndCycle(next, x)
		impl.BeforeOf(next, x)
		impl.PowerOfMap(next, x)
		impl.CountFixedBy(next, x)
		impl.ApplyMap(next, x, 5)
	}
	impl.IsMap(next)
	impl.CyclesOfMap(next)
	impl.WhenSteady(next)
	impl.NameOfMap(next)
	impl.RenameMap(next, other)
	impl.ComposeMaps(next, other)
	impl.AreMapsAlike(next, other)
}

// Each list lies within a longer array, whose numbers behind it have to stay as they are, and to have no effect.
func TestArgumentsOfMapsStayAsTheyAre(t *testing.T) {
	for _, next := range append(append(noMaps(), greatMaps()...), []int{0}, []int{1, 2, 0, 0}) {
		whole := append(slices.Clone(next), 7, -1, 0, 3, 1000)
		before := slices.Clone(whole)
		part := whole[:len(next)]
		for _, names := range append(noMaps(), identity(len(next)), circles(max(len(next), 1))) {
			longer := append(slices.Clone(names), 1, 0, -1)
			names = longer[:len(names)]
			namesBefore := slices.Clone(longer)
			callAll(part, names)
			callAll(names, part)
			if !slices.Equal(whole, before) || !slices.Equal(longer, namesBefore) {
				t.Fatalf("%v and %v became %v and %v", before, namesBefore, whole, longer)
			}
			other, ok := impl.RenameMap(part, names)
			alone, aloneOK := impl.RenameMap(next, slices.Clone(names))
			if ok != aloneOK || !slices.Equal(other, alone) {
				t.Fatalf("RenameMap of %v by %v depends on what is behind", next, names)
			}
		}
		name, ok := impl.NameOfMap(part)
		alone, aloneOK := impl.NameOfMap(next)
		if name != alone || ok != aloneOK {
			t.Fatalf("NameOfMap of %v depends on what is behind", next)
		}
	}
}

func fill(list []int) {
	list = list[:cap(list)]
	for i := range list {
		list[i] = -7
	}
}

func TestResultsOfMapsAreNew(t *testing.T) {
	for _, next := range greatMaps() {
		before := slices.Clone(next)
		all := identity(len(next))
		calls := map[string]func() ([]int, bool){
			"BeforeOf":       func() ([]int, bool) { return impl.BeforeOf(next, 0) },
			"PowerOfMap 0":   func() ([]int, bool) { return impl.PowerOfMap(next, 0) },
			"PowerOfMap 1":   func() ([]int, bool) { return impl.PowerOfMap(next, 1) },
			"ComposeMaps":    func() ([]int, bool) { return impl.ComposeMaps(next, all) },
			"ComposeMaps of": func() ([]int, bool) { return impl.ComposeMaps(all, next) },
			"RenameMap":      func() ([]int, bool) { return impl.RenameMap(next, all) },
			"RenameMap by":   func() ([]int, bool) { return impl.RenameMap(all, all) },
		}
		for name, call := range mapCalls {
			calls[name] = func() ([]int, bool) { return call(next) }
		}
		for name, call := range calls {
			first, _ := call()
			want := slices.Clone(first)
			second, _ := call()
			fill(first)
			third, _ := call()
			if !slices.Equal(second, want) || !slices.Equal(third, want) {
				t.Fatalf("%s: results share memory: %v %v", name, second, third)
			}
			if !slices.Equal(next, before) || !slices.Equal(all, identity(len(next))) {
				t.Fatalf("%s: a result shares memory with an argument", name)
			}
		}
	}
}

func TestCyclesShareNoMemory(t *testing.T) {
	for _, next := range greatMaps() {
		want := cyclesOf(next)
		for i := range want {
			cycles, _ := impl.CyclesOfMap(next)
			fill(cycles[i])
			for j := range want {
				if j != i && !slices.Equal(cycles[j], want[j]) {
					t.Fatalf("cycles share memory: %v", cycles)
				}
			}
		}
		again, _ := impl.CyclesOfMap(next)
		if !slices.EqualFunc(again, want, slices.Equal[[]int]) {
			t.Fatalf("cycles are kept: %v", again)
		}
	}
}
