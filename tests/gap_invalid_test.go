package tests

import (
	"math"
	"slices"
	"testing"

	"loop.example/g01151/impl"
)

// Promise 11, for words.

var noWidths = []int{0, -1, -2, -8, 9, 10, 16, 64, 1000, math.MaxInt, math.MinInt}

// noWordsIn returns lists that are no words in a base.
func noWordsIn(base int) [][]int {
	return [][]int{
		nil, {}, {-1}, {base}, {base + 1}, {0, -1}, {-1, 0}, {0, base}, {base, 0}, {1, 0, base}, {1, -1, 1},
		{math.MaxInt}, {math.MinInt}, {0, math.MaxInt}, {math.MinInt, 0},
		make([]int, 9), make([]int, 10), make([]int, 1000), slices.Repeat([]int{1}, 9),
		append(make([]int, 7), base), append(make([]int, 7), -1),
	}
}

func checkNoWord(t *testing.T, word []int, base int) {
	t.Helper()
	step, ok := impl.SortedStep(word, base)
	checkNoList(t, "SortedStep", step, ok)
	gaps, ok := impl.GapsOf(word, base)
	checkNoList(t, "GapsOf", gaps, ok)
	value, ok := impl.ValueOf(word, base)
	checkNoInt(t, "ValueOf", value, ok)
	if run, ok := impl.SortedRun(word, base); len(run) != 0 || ok {
		t.Errorf("SortedRun of %v in base %d: %v %v", word, base, run, ok)
	}
	if tail, length, ok := impl.TailOf(word, base); tail != 0 || length != 0 || ok {
		t.Errorf("TailOf %v in base %d: %d %d %v", word, base, tail, length, ok)
	}
	if cycle, ok := impl.CycleOf(word, base); len(cycle) != 0 || ok {
		t.Errorf("CycleOf %v in base %d: %v %v", word, base, cycle, ok)
	}
}

func checkNoStepByGaps(t *testing.T, gaps []int, width int, base int) {
	t.Helper()
	if step, ok := impl.StepByGaps(gaps, width, base); len(step) != 0 || ok {
		t.Errorf("StepByGaps of %v for width %d in base %d: %v %v", gaps, width, base, step, ok)
	}
}

func checkNoWordOf(t *testing.T, n int, width int, base int) {
	t.Helper()
	if word, ok := impl.WordOf(n, width, base); len(word) != 0 || ok {
		t.Errorf("WordOf %d with width %d in base %d: %v %v", n, width, base, word, ok)
	}
}

func checkTooManyWords(t *testing.T, width int, base int) {
	t.Helper()
	counts, ok := impl.CountReaching(width, base)
	checkNoList(t, "CountReaching", counts, ok)
	if tail, word, ok := impl.LongestTail(width, base); tail != 0 || len(word) != 0 || ok {
		t.Errorf("LongestTail of width %d in base %d: %d %v %v", width, base, tail, word, ok)
	}
}

func checkNoWidth(t *testing.T, width int, base int) {
	t.Helper()
	checkTooManyWords(t, width, base)
	for _, call := range []func(int, int) ([][]int, bool){impl.AllGaps, impl.FixedWords} {
		if lists, ok := call(width, base); len(lists) != 0 || ok {
			t.Errorf("AllGaps or FixedWords of width %d in base %d: %v %v", width, base, lists, ok)
		}
	}
	if cycles, ok := impl.AllCycles(width, base); len(cycles) != 0 || ok {
		t.Errorf("AllCycles of width %d in base %d: %v %v", width, base, cycles, ok)
	}
	for _, n := range []int{0, 1, -1, math.MaxInt, math.MinInt} {
		checkNoWordOf(t, n, width, base)
	}
	for length := range 6 {
		checkNoStepByGaps(t, make([]int, length), width, base)
	}
}

func TestListsThatAreNoWords(t *testing.T) {
	for _, base := range bases {
		for _, list := range noWordsIn(base) {
			checkNoWord(t, list, base)
		}
		if _, ok := impl.SortedStep([]int{0, base - 1}, base); !ok {
			t.Error("SortedStep fails", base)
		}
	}
}

func TestBasesBeyondTheLimitsOfWords(t *testing.T) {
	for _, base := range noBases {
		for _, word := range append(noWordsIn(base), []int{0}, []int{1}, []int{0, 0}, []int{0, 1}, []int{3, 5, 2, 4}, make([]int, 8)) {
			checkNoWord(t, word, base)
		}
		for _, width := range slices.Concat(widths, noWidths) {
			checkNoWidth(t, width, base)
		}
	}
}

func TestWidthsBeyondTheLimits(t *testing.T) {
	for _, width := range noWidths {
		for _, base := range slices.Concat(bases, noBases) {
			checkNoWidth(t, width, base)
			checkNoStepByGaps(t, []int{1, 0}, width, base)
		}
	}
}

func TestListsThatAreNoGaps(t *testing.T) {
	for _, base := range bases {
		for _, width := range widths {
			for length := range 10 {
				if length != width/2 {
					checkNoStepByGaps(t, make([]int, length), width, base)
					checkNoStepByGaps(t, slices.Repeat([]int{1}, length), width, base)
				}
			}
			for i := range width / 2 {
				for _, d := range []int{-1, base, base + 1, math.MaxInt, math.MinInt} {
					gaps := make([]int, width/2)
					gaps[i] = d
					checkNoStepByGaps(t, gaps, width, base)
					checkNoStepByGaps(t, slices.Repeat([]int{d}, width/2), width, base)
				}
				if i > 0 {
					rising := make([]int, width/2)
					rising[i] = 1
					checkNoStepByGaps(t, rising, width, base)
					rising = slices.Repeat([]int{base - 1}, width/2)
					rising[i-1] = base - 2
					checkNoStepByGaps(t, rising, width, base)
				}
			}
		}
	}
	checkNoStepByGaps(t, []int{1, 3}, 4, 10)
	checkNoStepByGaps(t, nil, 2, 10)
	checkNoStepByGaps(t, []int{3, 1}, 3, 10)
	checkNoStepByGaps(t, []int{3, 1}, 6, 10)
}

func TestValuesBeyondTheLimits(t *testing.T) {
	for _, base := range slices.Concat(bases, noBases) {
		for _, width := range slices.Concat(widths, noWidths) {
			for _, n := range []int{-1, -2, -10, 1 << 32, 1<<32 + 1, 1 << 62, math.MaxInt, math.MinInt} {
				checkNoWordOf(t, n, width, base)
			}
		}
	}
}

// Each list lies within a longer array, whose numbers behind it have to stay as they are, and to have no effect.
func TestArgumentsOfWordsStayAsTheyAre(t *testing.T) {
	for _, base := range slices.Concat(bases, noBases) {
		for _, list := range append(noWordsIn(base), []int{0}, []int{1, 0}, []int{0, 1, 0}, []int{3, 5, 2, 4}, []int{4, 3, 1}, []int{9, 1, 1, 0}, []int{1, 0, 1, 0, 1, 1, 0, 0}) {
			whole := append(slices.Clone(list), 1, 0, -1, 7, 1000)
			before := slices.Clone(whole)
			part := whole[:len(list)]
			for _, call := range []func([]int, int) ([]int, bool){impl.SortedStep, impl.GapsOf} {
				got, ok := call(part, base)
				alone, aloneOK := call(slices.Clone(list), base)
				if !slices.Equal(got, alone) || ok != aloneOK {
					t.Fatalf("SortedStep or GapsOf %v in base %d depends on what is behind", list, base)
				}
				fill(got)
			}
			for _, call := range []func([]int, int) ([][]int, bool){impl.SortedRun, impl.CycleOf} {
				lists, _ := call(part, base)
				for _, word := range lists {
					fill(word)
				}
			}
			impl.TailOf(part, base)
			impl.ValueOf(part, base)
			for _, width := range slices.Concat(widths, noWidths) {
				step, _ := impl.StepByGaps(part, width, base)
				fill(step)
			}
			if !slices.Equal(whole, before) {
				t.Fatalf("%v became %v in base %d", before, whole, base)
			}
		}
	}
}

func TestResultsOfWordsAreNew(t *testing.T) {
	word := []int{3, 5, 2, 4, 1}
	for name, call := range map[string]func() ([]int, bool){
		"SortedStep":    func() ([]int, bool) { return impl.SortedStep(word, 10) },
		"GapsOf":        func() ([]int, bool) { return impl.GapsOf(word, 10) },
		"StepByGaps":    func() ([]int, bool) { return impl.StepByGaps([]int{4, 2}, 5, 10) },
		"CountReaching": func() ([]int, bool) { return impl.CountReaching(4, 10) },
		"WordOf":        func() ([]int, bool) { return impl.WordOf(1234, 5, 10) },
		"LongestTail": func() ([]int, bool) {
			_, word, ok := impl.LongestTail(4, 10)
			return word, ok
		},
	} {
		first, _ := call()
		want := slices.Clone(first)
		second, _ := call()
		fill(first)
		third, _ := call()
		if !slices.Equal(second, want) || !slices.Equal(third, want) {
			t.Error(name, "results share memory", second, third)
		}
	}
}

func checkListsAreNew(t *testing.T, name string, call func() [][]int) {
	t.Helper()
	want := call()
	for i := range want {
		lists := call()
		fill(lists[i])
		for j := range want {
			if j != i && !slices.Equal(lists[j], want[j]) {
				t.Fatalf("%s: lists share memory: %v", name, lists)
			}
		}
		// What is put behind one list must not be seen in another one.
		lists = call()
		_ = append(lists[i], -7, -7, -7)
		if !slices.EqualFunc(lists, want, slices.Equal[[]int]) {
			t.Fatalf("%s: lists share memory: %v", name, lists)
		}
	}
}

func TestListsOfWordsShareNoMemory(t *testing.T) {
	for name, call := range map[string]func() ([][]int, bool){
		"SortedRun":  func() ([][]int, bool) { return impl.SortedRun([]int{3, 5, 2, 4, 1}, 10) },
		"CycleOf":    func() ([][]int, bool) { return impl.CycleOf([]int{3, 5, 2, 4, 1}, 10) },
		"AllGaps":    func() ([][]int, bool) { return impl.AllGaps(6, 4) },
		"AllGaps 1":  func() ([][]int, bool) { return impl.AllGaps(1, 4) },
		"FixedWords": func() ([][]int, bool) { return impl.FixedWords(8, 10) },
		"AllCycles": func() ([][]int, bool) {
			cycles, ok := impl.AllCycles(5, 10)
			return slices.Concat(cycles...), ok
		},
	} {
		checkListsAreNew(t, name, func() [][]int {
			lists, _ := call()
			return lists
		})
	}
}

// No list of cycles goes on in the memory of another one.
func TestCyclesOfWordsShareNoMemory(t *testing.T) {
	want, _ := impl.AllCycles(5, 10)
	for i := range want {
		cycles, _ := impl.AllCycles(5, 10)
		_ = append(cycles[i], []int{-7}, []int{-7})
		for j := range want {
			checkWords(t, "AllCycles after a change", 5, 10, cycles[j], true, want[j])
		}
	}
}
