package tests

import (
	"fmt"
	"slices"
	"testing"

	"loop.example/g01151/impl"
)

// Promise 2: each number of a map comes to a cycle behind its depth, and names are the same exactly for maps that are alike.

func checkList(t *testing.T, name string, next []int, got []int, ok bool, want []int) {
	t.Helper()
	if !ok || !slices.Equal(got, want) {
		t.Fatalf("%s of %v: %v %v, want %v", name, next, got, ok, want)
	}
}

func TestExampleOfMaps(t *testing.T) {
	next := []int{1, 2, 0, 0}
	cycles, ok := impl.CyclesOfMap(next)
	if !ok || len(cycles) != 1 || !slices.Equal(cycles[0], []int{0, 1, 2}) {
		t.Error("cycles", cycles, ok)
	}
	depths, ok := impl.DepthsOf(next)
	checkList(t, "DepthsOf", next, depths, ok, []int{0, 0, 0, 1})
	if name, ok := impl.NameOfMap(next); name != "[(())()()]" || !ok {
		t.Error("name", name, ok)
	}
}

func TestMapsAreListsOfTheirNumbers(t *testing.T) {
	for _, next := range mapsToTry() {
		if !impl.IsMap(next) {
			t.Errorf("%v is no map", next)
		}
	}
	for n := 1; n <= 4; n++ { // all lists of the numbers -1..n
		for _, list := range allMaps(n + 2) {
			list = list[:n]
			for i := range list {
				list[i]--
			}
			want := slices.Min(list) >= 0 && slices.Max(list) < n
			if impl.IsMap(list) != want {
				t.Errorf("IsMap of %v: %v", list, !want)
			}
		}
	}
}

func TestStepsOfMaps(t *testing.T) {
	for _, next := range mapsToTry() {
		for _, k := range []int{0, 1, 2, 3, 4, 5, 6, 7, 8, 58, 59, 60, 61, 1023, 60060, 999999, 1000000} {
			want := walkAll(next, k)
			power, ok := impl.PowerOfMap(next, k)
			checkList(t, fmt.Sprint("PowerOfMap by ", k), next, power, ok, want)
			fixed := 0
			for x, end := range want {
				if got, ok := impl.ApplyMap(next, x, k); got != end || !ok {
					t.Fatalf("ApplyMap %d times to %d by %v: %d %v, want %d", k, x, next, got, ok, end)
				}
				if end == x {
					fixed++
				}
			}
			if got, ok := impl.CountFixedBy(next, k); got != fixed || !ok {
				t.Fatalf("CountFixedBy %d steps of %v: %d %v, want %d", k, next, got, ok, fixed)
			}
		}
	}
}

func TestTailsLeadIntoCycles(t *testing.T) {
	for _, next := range mapsToTry() {
		depths, ok := impl.DepthsOf(next)
		if !ok || len(depths) != len(next) {
			t.Fatalf("DepthsOf %v: %v %v", next, depths, ok)
		}
		basins, ok := impl.BasinsOf(next)
		if !ok || len(basins) != len(next) {
			t.Fatalf("BasinsOf %v: %v %v", next, basins, ok)
		}
		cycles := cyclesOf(next)
		for x := range next {
			way, tail := wayOf(next, x)
			depth, length, ok := impl.TailAndCycle(next, x)
			if depth != tail || length != len(way)-tail || !ok {
				t.Fatalf("TailAndCycle of %d by %v: %d %d %v", x, next, depth, length, ok)
			}
			if depths[x] != tail {
				t.Fatalf("DepthsOf %v: %v", next, depths)
			}
			if b := basins[x]; b < 0 || b >= len(cycles) || !slices.Contains(cycles[b], way[tail]) {
				t.Fatalf("BasinsOf %v: %v", next, basins)
			}
		}
	}
}

func TestCyclesOfMaps(t *testing.T) {
	for _, next := range mapsToTry() {
		want := cyclesOf(next)
		cycles, ok := impl.CyclesOfMap(next)
		if !ok || !slices.EqualFunc(cycles, want, slices.Equal[[]int]) {
			t.Fatalf("CyclesOfMap of %v: %v %v, want %v", next, cycles, ok, want)
		}
	}
}

func TestNumbersBeforeAndEnds(t *testing.T) {
	for _, next := range mapsToTry() {
		var ends []int
		for x := range next {
			var want []int
			for y := range next {
				if next[y] == x {
					want = append(want, y)
				}
			}
			if want == nil {
				ends = append(ends, x)
			}
			before, ok := impl.BeforeOf(next, x)
			checkList(t, fmt.Sprint("BeforeOf ", x), next, before, ok, want)
		}
		got, ok := impl.EndsOf(next)
		checkList(t, "EndsOf", next, got, ok, ends)
	}
}

func TestComposedMaps(t *testing.T) {
	for n := 1; n <= 3; n++ {
		for _, f := range allMaps(n) {
			for _, g := range allMaps(n) {
				var want []int
				for x := range f {
					want = append(want, g[f[x]])
				}
				both, ok := impl.ComposeMaps(f, g)
				checkList(t, fmt.Sprint("ComposeMaps with ", f), g, both, ok, want)
			}
		}
	}
	for _, next := range greatMaps() {
		for _, k := range []int{0, 1, 2, 31} {
			want := walkAll(next, k+1)
			both, ok := impl.ComposeMaps(walkAll(next, k), next)
			checkList(t, "ComposeMaps", next, both, ok, want)
			both, ok = impl.ComposeMaps(next, walkAll(next, k))
			checkList(t, "ComposeMaps", next, both, ok, want)
		}
	}
}

func TestMapsBecomeSteady(t *testing.T) {
	for _, next := range mapsToTry() {
		wantS, wantD := firstRepeated(next)
		s, d, ok := impl.WhenSteady(next)
		if s != wantS || d != wantD || !ok {
			t.Fatalf("WhenSteady of %v: %d %d %v, want %d %d", next, s, d, ok, wantS, wantD)
		}
		var want []int
		for k := range wantS + 1 {
			want = append(want, countDifferent(walkAll(next, k)))
		}
		images, ok := impl.ImagesOf(next)
		checkList(t, "ImagesOf", next, images, ok, want)
	}
}

func TestRenamedMaps(t *testing.T) {
	for n := 1; n <= 4; n++ {
		for _, next := range allMaps(n) {
			for _, names := range allNames(n) {
				other, ok := impl.RenameMap(next, names)
				checkList(t, fmt.Sprint("RenameMap by ", names), next, other, ok, renamed(next, names))
			}
		}
	}
	for _, next := range greatMaps() {
		for _, names := range someNames(len(next)) {
			other, ok := impl.RenameMap(next, names)
			checkList(t, fmt.Sprint("RenameMap by ", names), next, other, ok, renamed(next, names))
		}
	}
}

func TestNamesAreTheSameExactlyForMapsThatAreAlike(t *testing.T) {
	for n := 1; n <= 5; n++ {
		names := allNames(n)
		nameOf, leastOf := map[string]string{}, map[string]string{}
		for _, next := range allMaps(n) {
			least := leastRenamed(next, names)
			name, ok := impl.NameOfMap(next)
			if !ok {
				t.Fatalf("NameOfMap of %v fails", next)
			}
			if was, ok := nameOf[least]; ok && was != name {
				t.Fatalf("%v, like %s, has the names %s and %s", next, least, name, was)
			}
			if was, ok := leastOf[name]; ok && was != least {
				t.Fatalf("%s and %s are not alike, and have the name %s", least, was, name)
			}
			nameOf[least], leastOf[name] = name, least
		}
	}
}

func TestCountOfNames(t *testing.T) {
	for n, want := range []int{1, 3, 7, 19, 47, 130} { // the known numbers of such graphs
		names := map[string]bool{}
		for _, next := range allMaps(n + 1) {
			name, _ := impl.NameOfMap(next)
			names[name] = true
		}
		if len(names) != want {
			t.Errorf("%d names of maps of %d numbers, want %d", len(names), n+1, want)
		}
	}
}

func TestNamesTellTheirMapsInOrder(t *testing.T) {
	names := map[int][][]int{}
	for n := 1; n <= 5; n++ {
		names[n] = allNames(n)
	}
	for _, next := range mapsToTry() {
		name, ok := impl.NameOfMap(next)
		told, orderly := readName(name)
		if !ok || !orderly {
			t.Fatalf("NameOfMap of %v is not in order: %s %v", next, name, ok)
		}
		if len(next) <= 5 && leastRenamed(told, names[len(next)]) != leastRenamed(next, names[len(next)]) {
			t.Fatalf("NameOfMap of %v: %s", next, name)
		}
		if len(next) > 5 && !areAlike(told, next) {
			t.Fatalf("NameOfMap of %v: %s", next, name)
		}
	}
}

func TestNamesOfMaps(t *testing.T) {
	for name, next := range map[string][]int{
		"[()]":                     {0},
		"[()][()]":                 {0, 1},
		"[()()]":                   {1, 0},
		"[(())]":                   {1, 1},
		"[(()())]":                 {2, 2, 2},
		"[((()))]":                 {0, 0, 1},
		"[(((())))]":               {1, 2, 3, 3},
		"[(())][()]":               {2, 1, 2}, // the cycle with the least text first
		"[()()][()]":               {0, 2, 1}, // `(` comes before `]`
		"[(())][()()]":             {1, 0, 2, 2},
		"[((())())]":               {0, 0, 0, 2}, // `(())` comes before `()`
		"[((())()())()]":           {1, 0, 1, 1, 1, 4},
		"[(())()(())()()]":         {1, 2, 3, 4, 0, 1, 3}, // turned to where the whole is least, not only its first text
		"[(())(())()]":             {1, 2, 0, 0, 2},
		"[(()())(())()]":           {1, 2, 0, 0, 2, 2}, // the way round of the cycle counts
		"[(()())()(())]":           {1, 2, 0, 2, 2, 1},
		"[(())][(())][()()][()()]": {1, 0, 3, 2, 4, 4, 6, 6},
	} {
		if got, ok := impl.NameOfMap(next); got != name || !ok {
			t.Errorf("NameOfMap of %v: %s %v, want %s", next, got, ok, name)
		}
	}
}

func TestMapsThatAreAlike(t *testing.T) {
	for n := 1; n <= 4; n++ {
		leastOf := map[string]string{}
		for _, f := range allMaps(n) {
			leastOf[fmt.Sprint(f)] = leastRenamed(f, allNames(n))
		}
		for _, f := range allMaps(n) {
			for _, g := range allMaps(n) {
				want := leastOf[fmt.Sprint(f)] == leastOf[fmt.Sprint(g)]
				if alike, ok := impl.AreMapsAlike(f, g); alike != want || !ok {
					t.Fatalf("AreMapsAlike of %v and %v: %v %v", f, g, alike, ok)
				}
			}
		}
	}
}

func TestGreatMapsThatAreAlike(t *testing.T) {
	for _, f := range greatMaps() {
		for _, names := range someNames(len(f)) {
			g := renamed(f, names)
			if alike, ok := impl.AreMapsAlike(f, g); !alike || !ok {
				t.Fatalf("AreMapsAlike of %v and, by other names, %v: %v %v", f, g, alike, ok)
			}
			// One number that leads elsewhere often, but not always, makes a map that is not alike.
			x := len(f) / 3
			g[x] = (g[x] + 1) % len(g)
			want := areAlike(f, g)
			if alike, ok := impl.AreMapsAlike(f, g); alike != want || !ok {
				t.Fatalf("AreMapsAlike of %v and %v: %v %v", f, g, alike, ok)
			}
		}
	}
}
