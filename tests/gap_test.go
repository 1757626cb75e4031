package tests

import (
	"slices"
	"testing"

	"loop.example/g01151/impl"
)

// Promise 4: sorted steps depend on gaps, and runs end in the cycles of their width.

func checkWords(t *testing.T, name string, width int, base int, got [][]int, ok bool, want [][]int) {
	t.Helper()
	if !ok || !slices.EqualFunc(got, want, slices.Equal[[]int]) {
		t.Fatalf("%s for width %d in base %d: %v %v, want %v", name, width, base, got, ok, want)
	}
}

func checkWordCycles(t *testing.T, width int, base int, want [][][]int) {
	t.Helper()
	got, ok := impl.AllCycles(width, base)
	if !ok || len(got) != len(want) {
		t.Fatalf("AllCycles of width %d in base %d: %v %v, want %v", width, base, got, ok, want)
	}
	for i, cycle := range want {
		checkWords(t, "a cycle of AllCycles", width, base, got[i], ok, cycle)
	}
}

func checkWord(t *testing.T, name string, of []int, base int, got []int, ok bool, want []int) {
	t.Helper()
	if !ok || !slices.Equal(got, want) {
		t.Fatalf("%s of %v in base %d: %v %v, want %v", name, of, base, got, ok, want)
	}
}

func checkTail(t *testing.T, word []int, base int, tail int, length int) {
	t.Helper()
	gotTail, gotLength, ok := impl.TailOf(word, base)
	if gotTail != tail || gotLength != length || !ok {
		t.Fatalf("TailOf %v in base %d: %d %d %v, want %d %d", word, base, gotTail, gotLength, ok, tail, length)
	}
}

func checkLongest(t *testing.T, width int, base int, tail int, word []int) {
	t.Helper()
	got, gotWord, ok := impl.LongestTail(width, base)
	if got != tail || !ok || !slices.Equal(gotWord, word) {
		t.Fatalf("LongestTail of width %d in base %d: %d %v %v, want %d %v", width, base, got, gotWord, ok, tail, word)
	}
}

func TestLimitsOfWordsAreThoseOfTheDocument(t *testing.T) {
	if impl.MaxWidth != mostWidth || impl.MaxWords != mostWords {
		t.Error(impl.MaxWidth, impl.MaxWords)
	}
}

func TestExampleOfWords(t *testing.T) {
	word := []int{3, 5, 2, 4}
	step, ok := impl.SortedStep(word, 10)
	checkWord(t, "SortedStep", word, 10, step, ok, []int{3, 0, 8, 7})
	gaps, ok := impl.GapsOf(word, 10)
	checkWord(t, "GapsOf", word, 10, gaps, ok, []int{3, 1})
	checkWordCycles(t, 4, 10, [][][]int{{{0, 0, 0, 0}}, {{6, 1, 7, 4}}})
	counts, ok := impl.CountReaching(4, 10)
	checkNumbers(t, "CountReaching", 10, 4, counts, ok, []int{10, 9990})
}

func TestSortedSteps(t *testing.T) {
	for _, base := range bases {
		for _, width := range widths {
			for _, word := range wordsToTry(width, base) {
				want, gapsWanted := stepOfWord(word, base), gapsOfWord(word)
				step, ok := impl.SortedStep(word, base)
				checkWord(t, "SortedStep", word, base, step, ok, want)
				gaps, ok := impl.GapsOf(word, base)
				checkWord(t, "GapsOf", word, base, gaps, ok, gapsWanted)
				step, ok = impl.StepByGaps(gapsWanted, width, base)
				checkWord(t, "StepByGaps for the gaps", word, base, step, ok, want)
			}
		}
	}
}

// The value of a step is that of the number sorted down less that of the number sorted up, as chapter 1 tells both, and is divided by base - 1.
func TestValuesOfSortedSteps(t *testing.T) {
	for _, base := range bases {
		for _, width := range widths {
			for _, word := range wordsToTry(width, base) {
				step, ok := impl.SortedStep(word, base)
				value, valueOK := impl.ValueOf(step, base)
				if !ok || !valueOK || value%(base-1) != 0 {
					t.Fatalf("SortedStep of %v in base %d: %v %v with the value %d", word, base, step, ok, value)
				}
				if word[0] == 0 {
					continue
				}
				n, _ := impl.ValueOf(word, base)
				down, _ := impl.SortedDown(n, base)
				up, _ := impl.SortedUp(n, base)
				if value != down-up {
					t.Fatalf("SortedStep of %v in base %d: %v with the value %d, want %d", word, base, step, value, down-up)
				}
			}
		}
	}
}

// All words with the same gaps go the same way: turned ones, ones with all digits raised, and odd ones with another middle digit.
func TestGapsAloneTellSteps(t *testing.T) {
	for _, base := range bases {
		for _, width := range widths {
			for _, word := range wordsToTry(width, base) {
				want, _ := impl.SortedStep(word, base)
				turned := slices.Concat(word[width/3:], word[:width/3])
				slices.Reverse(turned)
				step, ok := impl.SortedStep(turned, base)
				checkWord(t, "SortedStep", turned, base, step, ok, want)
				raised := slices.Sorted(slices.Values(word))
				for i := range raised {
					raised[i] += base - 1 - slices.Max(word)
				}
				if width%2 == 1 && width > 1 {
					raised[width/2] = raised[width/2-1]
				}
				step, ok = impl.SortedStep(raised, base)
				checkWord(t, "SortedStep", raised, base, step, ok, want)
			}
		}
	}
}

func TestRunsOfWords(t *testing.T) {
	for _, base := range bases {
		for _, width := range widths {
			for _, word := range wordsToTry(width, base) {
				want, tail := wordRunOf(word, base)
				run, ok := impl.SortedRun(word, base)
				checkWords(t, "SortedRun", width, base, run, ok, want)
				checkTail(t, word, base, tail, len(want)-tail)
				cycle, ok := impl.CycleOf(word, base)
				checkWords(t, "CycleOf", width, base, cycle, ok, fromLeastWord(want[tail:]))
			}
		}
	}
}

func TestRunsEndInCyclesOfTheirWidth(t *testing.T) {
	for _, base := range bases {
		for _, width := range widths {
			cycles, ok := impl.AllCycles(width, base)
			if !ok {
				t.Fatal("AllCycles fails", width, base)
			}
			for _, word := range wordsToTry(width, base) {
				end, _ := impl.CycleOf(word, base)
				isEnd := func(cycle [][]int) bool { return slices.EqualFunc(cycle, end, slices.Equal[[]int]) }
				if !slices.ContainsFunc(cycles, isEnd) {
					t.Fatalf("the run of %v in base %d ends in %v, which is no told cycle", word, base, end)
				}
			}
		}
	}
}

func TestAllGaps(t *testing.T) {
	for _, base := range bases {
		for _, width := range widths {
			gaps, ok := impl.AllGaps(width, base)
			checkWords(t, "AllGaps", width, base, gaps, ok, gapListsOf(width, base))
			// There are as many as choices of width / 2 of base digits, each as often as one likes.
			choices := 1
			for i := range width / 2 {
				choices = choices * (base + i) / (i + 1)
			}
			if len(gaps) != choices {
				t.Fatalf("AllGaps of width %d in base %d: %d lists, want %d", width, base, len(gaps), choices)
			}
		}
	}
	gaps, ok := impl.AllGaps(4, 3)
	checkWords(t, "AllGaps", 4, 3, gaps, ok, [][]int{{0, 0}, {1, 0}, {1, 1}, {2, 0}, {2, 1}, {2, 2}})
}

// Each list of gaps tells a step, each of these steps another one, in the order of values.
func TestStepsOfAllGaps(t *testing.T) {
	for _, base := range bases {
		for _, width := range widths {
			gaps, _ := impl.AllGaps(width, base)
			before := -1
			for _, list := range gaps {
				// These digits have these gaps, as they do not rise and there are only zeros behind.
				word := slices.Concat(list, make([]int, width-len(list)))
				step, ok := impl.StepByGaps(list, width, base)
				checkWord(t, "StepByGaps for the gaps", word, base, step, ok, stepOfWord(word, base))
				value, _ := impl.ValueOf(step, base)
				if value <= before {
					t.Fatalf("StepByGaps of %v for width %d in base %d: %v after the value %d", list, width, base, step, before)
				}
				before = value
			}
		}
	}
}

func TestAllCyclesAndFixedWords(t *testing.T) {
	for _, base := range bases {
		for _, width := range widths {
			want := cyclesOfWords(width, base)
			checkWordCycles(t, width, base, want)
			var fixedWanted [][]int
			for _, cycle := range want {
				if len(cycle) == 1 {
					fixedWanted = append(fixedWanted, cycle[0])
				}
			}
			fixed, ok := impl.FixedWords(width, base)
			checkWords(t, "FixedWords", width, base, fixed, ok, fixedWanted)
		}
	}
}

// The known cycles of the base 10.
func TestKnownCycles(t *testing.T) {
	checkWordCycles(t, 2, 10, [][][]int{{{0, 0}}, {{0, 9}, {8, 1}, {6, 3}, {2, 7}, {4, 5}}})
	checkWordCycles(t, 3, 10, [][][]int{{{0, 0, 0}}, {{4, 9, 5}}})
	checkWordCycles(t, 5, 10, [][][]int{
		{{0, 0, 0, 0, 0}},
		{{5, 3, 9, 5, 5}, {5, 9, 9, 9, 4}},
		{{6, 1, 9, 7, 4}, {8, 2, 9, 6, 2}, {7, 5, 9, 3, 3}, {6, 3, 9, 5, 4}},
		{{6, 2, 9, 6, 4}, {7, 1, 9, 7, 3}, {8, 3, 9, 5, 2}, {7, 4, 9, 4, 3}},
	})
	for width, want := range [][][]int{
		3: {{0, 0, 0}, {4, 9, 5}},
		4: {{0, 0, 0, 0}, {6, 1, 7, 4}},
		5: {{0, 0, 0, 0, 0}},
		6: {{0, 0, 0, 0, 0, 0}, {5, 4, 9, 9, 4, 5}, {6, 3, 1, 7, 6, 4}},
		7: {{0, 0, 0, 0, 0, 0, 0}},
		8: {{0, 0, 0, 0, 0, 0, 0, 0}, {6, 3, 3, 1, 7, 6, 6, 4}, {9, 7, 5, 0, 8, 4, 2, 1}},
	} {
		if width > 0 && want != nil {
			fixed, ok := impl.FixedWords(width, 10)
			checkWords(t, "FixedWords", width, 10, fixed, ok, want)
		}
	}
}

func TestWordsThatReachCycles(t *testing.T) {
	smallShapes(func(width int, base int) {
		tails, ends := endsOfWords(width, base)
		var countsWanted []int
		for _, cycle := range cyclesOfWords(width, base) {
			least, count := valueOfWord(cycle[0], base), 0
			for _, end := range ends {
				if end == least {
					count++
				}
			}
			countsWanted = append(countsWanted, count)
		}
		counts, ok := impl.CountReaching(width, base)
		checkNumbers(t, "CountReaching", base, width, counts, ok, countsWanted)
		longest := slices.Max(tails)
		checkLongest(t, width, base, longest, wordWithValue(slices.Index(tails, longest), width, base))
	})
}

// The longest tail is that of its word, and all words are counted once.
func TestCountsAndLongestTailsAgreeWithRuns(t *testing.T) {
	smallShapes(func(width int, base int) {
		tail, word, ok := impl.LongestTail(width, base)
		ofWord, _, tailOK := impl.TailOf(word, base)
		if !ok || !tailOK || tail != ofWord {
			t.Fatalf("LongestTail of width %d in base %d: %d %v %v, but TailOf %d %v", width, base, tail, word, ok, ofWord, tailOK)
		}
		for _, other := range wordsToTry(width, base) {
			if of, _, _ := impl.TailOf(other, base); of > tail || of == tail && slices.Compare(other, word) < 0 {
				t.Fatalf("LongestTail of width %d in base %d: %d %v, but %v has %d", width, base, tail, word, other, of)
			}
		}
		counts, _ := impl.CountReaching(width, base)
		cycles, _ := impl.AllCycles(width, base)
		total := 0
		for _, count := range counts {
			total += count
		}
		if len(counts) != len(cycles) || total != powerOf(base, width) {
			t.Fatalf("CountReaching of width %d in base %d: %v for %d cycles", width, base, counts, len(cycles))
		}
	})
	checkLongest(t, 3, 10, 6, []int{0, 0, 1})
	checkLongest(t, 4, 10, 7, []int{0, 0, 1, 4})
}

func TestWordsTellTheirValues(t *testing.T) {
	for _, base := range bases {
		for _, width := range widths {
			for _, word := range wordsToTry(width, base) {
				want := valueOfWord(word, base)
				if value, ok := impl.ValueOf(word, base); value != want || !ok {
					t.Fatalf("ValueOf %v in base %d: %d %v, want %d", word, base, value, ok, want)
				}
				got, ok := impl.WordOf(want, width, base)
				checkWord(t, "WordOf the value", word, base, got, ok, word)
			}
		}
	}
}
