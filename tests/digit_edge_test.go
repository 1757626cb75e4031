package tests

import (
	"math"
	"slices"
	"strings"
	"testing"

	"loop.example/g01151/impl"
)

func TestZero(t *testing.T) {
	for _, base := range bases {
		if digits, ok := impl.DigitsOf(0, base); !ok || !slices.Equal(digits, []int{0}) {
			t.Error("DigitsOf", base, digits, ok)
		}
		if text, ok := impl.NumberText(0, base); text != "0" || !ok {
			t.Error("NumberText", base, text, ok)
		}
		if is, ok := impl.IsPalindrome(0, base); !is || !ok {
			t.Error("IsPalindrome", base, is, ok)
		}
		zeroCounts := make([]int, base)
		zeroCounts[0] = 1
		if counts, ok := impl.DigitCounts(0, base); !ok || !slices.Equal(counts, zeroCounts) {
			t.Error("DigitCounts", base, counts, ok)
		}
		checkInts(t, 0, base, []wantInt{
			pair(impl.NumberOf([]int{0}, base)).is("NumberOf", 0, true),
			pair(impl.CountDigits(0, base)).is("CountDigits", 1, true),
			pair(impl.DigitSum(0, base)).is("DigitSum", 0, true),
			pair(impl.DigitProduct(0, base)).is("DigitProduct", 0, true),
			pair(impl.ReverseNumber(0, base)).is("ReverseNumber", 0, true),
			pair(impl.NextPalindrome(0, base)).is("NextPalindrome", 1, true),
			pair(impl.SortedUp(0, base)).is("SortedUp", 0, true),
			pair(impl.SortedDown(0, base)).is("SortedDown", 0, true),
			pair(impl.LeastWith(zeroCounts, base)).is("LeastWith", 0, true),
			pair(impl.CountRearranged(0, base)).is("CountRearranged", 1, true),
			pair(impl.DigitalRoot(0, base)).is("DigitalRoot", 0, true),
			pair(impl.ParseNumber("0", base)).is("ParseNumber", 0, true),
		})
	}
}

func TestListsThatAreNoDigits(t *testing.T) {
	for _, base := range bases {
		for _, list := range [][]int{
			nil, {}, {0, 0}, {0, 1}, {0, 0, 1}, {-1}, {base}, {1, -1}, {1, base}, {base, 0}, {-1, 0}, {1, 0, base},
			{math.MaxInt}, {math.MinInt}, {1, math.MaxInt}, {1, math.MinInt},
		} {
			if are, ok := impl.AreDigits(list, base); are || !ok {
				t.Errorf("AreDigits of %v in base %d: %v %v", list, base, are, ok)
			}
			if n, ok := impl.NumberOf(list, base); n != 0 || ok {
				t.Errorf("NumberOf %v in base %d: %d %v", list, base, n, ok)
			}
		}
	}
}

func TestLongLists(t *testing.T) {
	for _, base := range bases {
		longest := append([]int{1}, make([]int, 39)...)
		if are, ok := impl.AreDigits(longest, base); !are || !ok {
			t.Error("AreDigits of 40 numbers", base, are, ok)
		}
		if are, ok := impl.AreDigits(slices.Repeat([]int{base - 1}, 40), base); !are || !ok {
			t.Error("AreDigits of the greatest 40 digits", base, are, ok)
		}
		if n, ok := impl.NumberOf(slices.Repeat([]int{base - 1}, 40), base); n != 0 || ok {
			t.Error("NumberOf the greatest 40 digits", base, n, ok)
		}
		for _, tooLong := range [][]int{append(longest, 0), make([]int, 41), make([]int, 1000), slices.Repeat([]int{-1}, 41)} {
			if are, ok := impl.AreDigits(tooLong, base); are || ok {
				t.Error("AreDigits of too many numbers", base, are, ok)
			}
			if n, ok := impl.NumberOf(tooLong, base); n != 0 || ok {
				t.Error("NumberOf too many numbers", base, n, ok)
			}
		}
	}
	if n, ok := impl.NumberOf(append([]int{1}, make([]int, 39)...), 2); n != 1<<39 || !ok {
		t.Error("NumberOf 40 digits", n, ok)
	}
}

func TestDigitsJustBeyondTheLimit(t *testing.T) {
	for _, base := range bases {
		within, beyond := digitsOf(limit, base), digitsOf(limit+1, base)
		if n, ok := impl.NumberOf(within, base); n != limit || !ok {
			t.Error("NumberOf MaxNumber", base, n, ok)
		}
		if n, ok := impl.NumberOf(beyond, base); n != 0 || ok {
			t.Error("NumberOf MaxNumber + 1", base, n, ok)
		}
		if are, ok := impl.AreDigits(beyond, base); !are || !ok {
			t.Error("AreDigits of MaxNumber + 1", base, are, ok)
		}
		if n, ok := impl.ParseNumber(textOf(limit, base), base); n != limit || !ok {
			t.Error("ParseNumber of MaxNumber", base, n, ok)
		}
		if n, ok := impl.ParseNumber(textOf(limit+1, base), base); n != 0 || ok {
			t.Error("ParseNumber of MaxNumber + 1", base, n, ok)
		}
	}
}

func TestLeastWithOfGreatNumbers(t *testing.T) {
	for _, base := range bases {
		for _, n := range numbersToTry(base) {
			counts := countsOf(n, base)
			sorted := []byte(sortedText(textOf(n, base)))
			if zeros := strings.Count(string(sorted), "0"); zeros < len(sorted) {
				sorted[0], sorted[zeros] = sorted[zeros], sorted[0]
			}
			want, wok := valueOf(string(sorted), base)
			checkInts(t, n, base, []wantInt{pair(impl.LeastWith(counts, base)).is("LeastWith", want, wok)})
			if !wok {
				t.Errorf("no least number with the digits of %d in base %d", n, base)
			}
		}
	}
}

func TestCountsOfNoNumber(t *testing.T) {
	for _, base := range bases {
		counts := func(first int, last int) []int {
			c := make([]int, base)
			c[0] += first
			c[base-1] += last
			return c
		}
		for _, c := range [][]int{
			nil, {}, make([]int, base), make([]int, base-1), make([]int, base+1), make([]int, 100),
			append(counts(1, 1), 0), counts(1, 1)[1:],
			counts(2, 0), counts(40, 0), counts(40, 1), counts(40, 40), counts(0, 40),
			counts(41, 1), counts(1, 41), counts(-1, 1), counts(-1, 2), counts(1, -1), counts(2, -1),
			counts(math.MaxInt, 1), counts(math.MinInt, 1), counts(1, math.MinInt), slices.Repeat([]int{40}, base),
		} {
			if n, ok := impl.LeastWith(c, base); n != 0 || ok {
				t.Errorf("LeastWith %v in base %d: %d %v", c, base, n, ok)
			}
		}
	}
}

func TestLeastWithAtTheLimit(t *testing.T) {
	checkInts(t, 0, 2, []wantInt{
		pair(impl.LeastWith([]int{39, 1}, 2)).is("LeastWith of 39 zeros", 1<<39, true),
		pair(impl.LeastWith([]int{0, 39}, 2)).is("LeastWith of 39 ones", 1<<39-1, true),
		pair(impl.LeastWith([]int{1, 39}, 2)).is("LeastWith of 39 ones and a zero", 1<<39+1<<38-1, true),
		pair(impl.LeastWith([]int{0, 40}, 2)).is("LeastWith of 40 ones", 0, false),
		pair(impl.LeastWith([]int{2, 39}, 2)).is("LeastWith of 39 ones and two zeros", 0, false),
		pair(impl.LeastWith([]int{40, 1}, 2)).is("LeastWith of 40 zeros", 0, false),
	})
	checkInts(t, 0, 10, []wantInt{
		pair(impl.LeastWith([]int{12, 1, 0, 0, 0, 0, 0, 0, 0, 0}, 10)).is("LeastWith of 10^12", limit, true),
		pair(impl.LeastWith([]int{11, 2, 0, 0, 0, 0, 0, 0, 0, 0}, 10)).is("LeastWith just beyond", 0, false),
		pair(impl.LeastWith([]int{0, 0, 0, 0, 0, 0, 0, 0, 0, 12}, 10)).is("LeastWith of twelve 9", limit-1, true),
		pair(impl.LeastWith([]int{1, 1, 1, 1, 1, 1, 1, 1, 1, 1}, 10)).is("LeastWith of each digit", 1023456789, true),
	})
}

func TestTextsThatAreNoNumbers(t *testing.T) {
	for _, base := range bases {
		for _, text := range []string{
			"", " ", "00", "01", "-", "+", "-0", "-1", "+1", " 1", "1 ", "1\n", "\n", "1.0", "1_0", "0x1", "0b1", "g", "1g", "A", "1F", "z",
			":", "/", "`", "\x00", "1\x00", "\xff", "1\xff", "é", "１", textOf(base-1, 16) + "z", "0" + textOf(limit, base),
			strings.Repeat("0", 40), strings.Repeat("1", 41), strings.Repeat("0", 41), strings.Repeat("1", 100000), strings.Repeat("1", 64) + "0",
		} {
			if n, ok := impl.ParseNumber(text, base); n != 0 || ok {
				t.Errorf("ParseNumber of %.50q in base %d: %d %v", text, base, n, ok)
			}
		}
		if base < 16 {
			letter := textOf(base, 16) // the digit that this base is the first not to have
			for _, text := range []string{letter, "1" + letter, letter + "0"} {
				if n, ok := impl.ParseNumber(text, base); n != 0 || ok {
					t.Errorf("ParseNumber of %q in base %d: %d %v", text, base, n, ok)
				}
			}
		}
	}
	if n, ok := impl.ParseNumber("FF", 16); n != 0 || ok {
		t.Error("great letters", n, ok)
	}
	if n, ok := impl.ParseNumber("ff", 16); n != 255 || !ok {
		t.Error("small letters", n, ok)
	}
}
