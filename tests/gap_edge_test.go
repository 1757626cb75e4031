package tests

import (
	"slices"
	"testing"

	"loop.example/g01151/impl"
)

func TestWordsOfOneDigit(t *testing.T) {
	zero := []int{0}
	for _, base := range bases {
		for d := range base {
			word := []int{d}
			step, ok := impl.SortedStep(word, base)
			checkWord(t, "SortedStep", word, base, step, ok, zero)
			gaps, ok := impl.GapsOf(word, base)
			checkWord(t, "GapsOf", word, base, gaps, ok, nil)
			run, ok := impl.SortedRun(word, base)
			if d == 0 {
				checkWords(t, "SortedRun", 1, base, run, ok, [][]int{zero})
			} else {
				checkWords(t, "SortedRun", 1, base, run, ok, [][]int{word, zero})
			}
			checkTail(t, word, base, min(d, 1), 1)
			cycle, ok := impl.CycleOf(word, base)
			checkWords(t, "CycleOf", 1, base, cycle, ok, [][]int{zero})
			checkInts(t, d, base, []wantInt{pair(impl.ValueOf(word, base)).is("ValueOf", d, true)})
			same, ok := impl.WordOf(d, 1, base)
			checkWord(t, "WordOf the value", word, base, same, ok, word)
		}
		checkWordCycles(t, 1, base, [][][]int{{zero}})
		fixed, ok := impl.FixedWords(1, base)
		checkWords(t, "FixedWords", 1, base, fixed, ok, [][]int{zero})
		counts, ok := impl.CountReaching(1, base)
		checkNumbers(t, "CountReaching", base, 1, counts, ok, []int{base})
		checkLongest(t, 1, base, 1, []int{1})
	}
}

// A word of one digit has no gaps: so there is one list of gaps, the empty one, and a step for it.
func TestGapsOfTheWidthOne(t *testing.T) {
	for _, base := range bases {
		lists, ok := impl.AllGaps(1, base)
		checkWords(t, "AllGaps", 1, base, lists, ok, [][]int{{}})
		for _, gaps := range [][]int{nil, {}} {
			step, ok := impl.StepByGaps(gaps, 1, base)
			checkWord(t, "StepByGaps", gaps, base, step, ok, []int{0})
		}
		for _, gaps := range [][]int{{0}, {1}, {0, 0}} {
			checkNoStepByGaps(t, gaps, 1, base)
		}
	}
}

func TestWordsWithZerosInFront(t *testing.T) {
	for _, c := range []struct {
		word, step, gaps []int
		base, value      int
	}{
		{[]int{0, 1}, []int{0, 9}, []int{1}, 10, 1},
		{[]int{0, 9}, []int{8, 1}, []int{9}, 10, 9},
		{[]int{0, 0, 1}, []int{0, 9, 9}, []int{1}, 10, 1},
		{[]int{0, 0, 0, 1}, []int{0, 9, 9, 9}, []int{1, 0}, 10, 1},
		{[]int{0, 0, 1, 4}, []int{4, 0, 8, 6}, []int{4, 1}, 10, 14},
		{[]int{0, 9, 9, 9}, []int{8, 9, 9, 1}, []int{9, 0}, 10, 999},
		{[]int{0, 1}, []int{0, 1}, []int{1}, 2, 1},
		{[]int{0, 15}, []int{14, 1}, []int{15}, 16, 15},
		{[]int{0, 0, 0, 0, 0, 0, 0, 1}, []int{0, 15, 15, 15, 15, 15, 15, 15}, []int{1, 0, 0, 0}, 16, 1},
		{[]int{0, 0, 0, 0, 0, 0, 0, 1}, []int{0, 1, 1, 1, 1, 1, 1, 1}, []int{1, 0, 0, 0}, 2, 1},
	} {
		step, ok := impl.SortedStep(c.word, c.base)
		checkWord(t, "SortedStep", c.word, c.base, step, ok, c.step)
		gaps, ok := impl.GapsOf(c.word, c.base)
		checkWord(t, "GapsOf", c.word, c.base, gaps, ok, c.gaps)
		step, ok = impl.StepByGaps(c.gaps, len(c.word), c.base)
		checkWord(t, "StepByGaps", c.gaps, c.base, step, ok, c.step)
		checkInts(t, 0, c.base, []wantInt{pair(impl.ValueOf(c.word, c.base)).is("ValueOf", c.value, true)})
		word, ok := impl.WordOf(c.value, len(c.word), c.base)
		checkWord(t, "WordOf the value", c.word, c.base, word, ok, c.word)
	}
	run, ok := impl.SortedRun([]int{0, 0, 1}, 10)
	checkWords(t, "SortedRun", 3, 10, run, ok, [][]int{{0, 0, 1}, {0, 9, 9}, {8, 9, 1}, {7, 9, 2}, {6, 9, 3}, {5, 9, 4}, {4, 9, 5}})
}

func TestWordsOfTheSameDigits(t *testing.T) {
	for _, base := range bases {
		for _, width := range widths {
			zeros := make([]int, width)
			for d := range base {
				word := slices.Repeat([]int{d}, width)
				step, ok := impl.SortedStep(word, base)
				checkWord(t, "SortedStep", word, base, step, ok, zeros)
				gaps, ok := impl.GapsOf(word, base)
				checkWord(t, "GapsOf", word, base, gaps, ok, make([]int, width/2))
				checkTail(t, word, base, min(d, 1), 1)
				cycle, ok := impl.CycleOf(word, base)
				checkWords(t, "CycleOf", width, base, cycle, ok, [][]int{zeros})
			}
			step, ok := impl.StepByGaps(make([]int, width/2), width, base)
			checkWord(t, "StepByGaps", zeros, base, step, ok, zeros)
			cycles, ok := impl.AllCycles(width, base)
			if !ok {
				t.Fatal("AllCycles fails", width, base)
			}
			checkWords(t, "the first one of AllCycles", width, base, cycles[0], ok, [][]int{zeros})
		}
	}
}

func TestWordsThatAreTheirOwnSteps(t *testing.T) {
	for _, base := range bases {
		for _, width := range widths {
			fixed, _ := impl.FixedWords(width, base)
			for _, word := range fixed {
				step, ok := impl.SortedStep(word, base)
				checkWord(t, "SortedStep", word, base, step, ok, word)
				run, ok := impl.SortedRun(word, base)
				checkWords(t, "SortedRun", width, base, run, ok, [][]int{word})
				checkTail(t, word, base, 0, 1)
				cycle, ok := impl.CycleOf(word, base)
				checkWords(t, "CycleOf", width, base, cycle, ok, [][]int{word})
			}
		}
	}
	fixed, ok := impl.FixedWords(2, 2)
	checkWords(t, "FixedWords", 2, 2, fixed, ok, [][]int{{0, 0}, {0, 1}})
	fixed, ok = impl.FixedWords(2, 3)
	checkWords(t, "FixedWords", 2, 3, fixed, ok, [][]int{{0, 0}})
	fixed, ok = impl.FixedWords(2, 5)
	checkWords(t, "FixedWords", 2, 5, fixed, ok, [][]int{{0, 0}, {1, 3}})
}

// From each of its words a run goes once around the cycle, which is told from its least word on.
func TestRunsThatBeginOnCycles(t *testing.T) {
	for _, base := range bases {
		for _, width := range widths {
			cycles, _ := impl.AllCycles(width, base)
			for _, cycle := range cycles {
				for i, word := range cycle {
					run, ok := impl.SortedRun(word, base)
					checkWords(t, "SortedRun", width, base, run, ok, slices.Concat(cycle[i:], cycle[:i]))
					checkTail(t, word, base, 0, len(cycle))
					same, ok := impl.CycleOf(word, base)
					checkWords(t, "CycleOf", width, base, same, ok, cycle)
				}
			}
		}
	}
}

func TestValuesAtTheLimitOfAWidth(t *testing.T) {
	for _, base := range bases {
		for _, width := range widths {
			end := powerOf(base, width)
			zeros, greatest := make([]int, width), slices.Repeat([]int{base - 1}, width)
			word, ok := impl.WordOf(0, width, base)
			checkWord(t, "WordOf the value", zeros, base, word, ok, zeros)
			word, ok = impl.WordOf(end-1, width, base)
			checkWord(t, "WordOf the value", greatest, base, word, ok, greatest)
			checkInts(t, width, base, []wantInt{
				pair(impl.ValueOf(zeros, base)).is("ValueOf zeros", 0, true),
				pair(impl.ValueOf(greatest, base)).is("ValueOf the greatest word", end-1, true),
			})
			checkNoWordOf(t, end, width, base)
			checkNoWordOf(t, end+1, width, base)
			checkNoWordOf(t, -1, width, base)
		}
	}
	checkInts(t, 8, 16, []wantInt{pair(impl.ValueOf(slices.Repeat([]int{15}, 8), 16)).is("ValueOf", 1<<32-1, true)})
}

func TestWidthsAndBasesAtTheLimits(t *testing.T) {
	for _, width := range []int{1, 8} {
		for _, base := range []int{2, 16} {
			word := slices.Repeat([]int{base - 1}, width)
			_, stepOK := impl.SortedStep(word, base)
			_, runOK := impl.SortedRun(word, base)
			_, cyclesOK := impl.AllCycles(width, base)
			_, gapsOK := impl.AllGaps(width, base)
			_, fixedOK := impl.FixedWords(width, base)
			_, wordOK := impl.WordOf(1, width, base)
			if !stepOK || !runOK || !cyclesOK || !gapsOK || !fixedOK || !wordOK {
				t.Error("a call fails", width, base, stepOK, runOK, cyclesOK, gapsOK, fixedOK, wordOK)
			}
			greatest := slices.Repeat([]int{base - 1}, width/2)
			if _, ok := impl.StepByGaps(greatest, width, base); !ok {
				t.Error("StepByGaps fails", greatest, width, base)
			}
			checkNoWidth(t, 9, base)
			checkNoWidth(t, width, 17)
			checkNoWidth(t, width, 1)
		}
	}
	checkNoWidth(t, 0, 10)
}

// 10^5 words are as many as allowed; 11^5 and 7^6 are more, and all widths of at most that many words are counted.
func TestWordsAtTheLimit(t *testing.T) {
	counts, ok := impl.CountReaching(5, 10)
	if !ok || len(counts) != 4 || counts[0] != 10 || counts[0]+counts[1]+counts[2]+counts[3] != mostWords {
		t.Error("CountReaching of 10^5 words", counts, ok)
	}
	checkLongest(t, 5, 10, 6, []int{0, 0, 0, 0, 1})
	for _, c := range []struct{ width, base int }{{8, 4}, {7, 5}, {6, 6}, {5, 10}, {4, 16}} {
		_, countOK := impl.CountReaching(c.width, c.base)
		_, _, tailOK := impl.LongestTail(c.width, c.base)
		if !countOK || !tailOK {
			t.Error("a search of at most MaxWords words fails", c.width, c.base, countOK, tailOK)
		}
	}
	for _, c := range []struct{ width, base int }{{8, 5}, {7, 6}, {6, 7}, {5, 11}, {8, 16}} {
		checkTooManyWords(t, c.width, c.base)
	}
	// Cycles and words that are their own steps are told for all widths.
	for _, base := range bases {
		for _, width := range widths {
			if isSmall(width, base) {
				continue
			}
			checkTooManyWords(t, width, base)
			_, cyclesOK := impl.AllCycles(width, base)
			_, fixedOK := impl.FixedWords(width, base)
			if !cyclesOK || !fixedOK {
				t.Error("cycles of many words fail", width, base, cyclesOK, fixedOK)
			}
		}
	}
}
