package tests

import (
	"math"
	"slices"
	"testing"

	"loop.example/g01151/impl"
)

// Promise 11: every function accepts all arguments without panicking and modifies none of them.

var noNumbers = []int{-1, -2, -10, limit + 1, limit + 2, 2 * limit, 1 << 62, math.MaxInt - 1, math.MaxInt, math.MinInt, math.MinInt + 1}

var noBases = []int{1, 0, -1, -2, -10, -16, 17, 18, 36, 100, math.MaxInt, math.MinInt}

// digitCalls are the functions of a number and a base that return a number.
var digitCalls = map[string]func(int, int) (int, bool){
	"CountDigits":     impl.CountDigits,
	"DigitSum":        impl.DigitSum,
	"DigitProduct":    impl.DigitProduct,
	"ReverseNumber":   impl.ReverseNumber,
	"NextPalindrome":  impl.NextPalindrome,
	"SortedUp":        impl.SortedUp,
	"SortedDown":      impl.SortedDown,
	"CountRearranged": impl.CountRearranged,
	"DigitalRoot":     impl.DigitalRoot,
}

func checkNothingOf(t *testing.T, n int, base int) {
	t.Helper()
	for name, call := range digitCalls {
		if got, ok := call(n, base); got != 0 || ok {
			t.Errorf("%s of %d in base %d: %d %v", name, n, base, got, ok)
		}
	}
	if digits, ok := impl.DigitsOf(n, base); len(digits) != 0 || ok {
		t.Errorf("DigitsOf %d in base %d: %v %v", n, base, digits, ok)
	}
	if counts, ok := impl.DigitCounts(n, base); len(counts) != 0 || ok {
		t.Errorf("DigitCounts of %d in base %d: %v %v", n, base, counts, ok)
	}
	if is, ok := impl.IsPalindrome(n, base); is || ok {
		t.Errorf("IsPalindrome of %d in base %d: %v %v", n, base, is, ok)
	}
	if text, ok := impl.NumberText(n, base); text != "" || ok {
		t.Errorf("NumberText of %d in base %d: %q %v", n, base, text, ok)
	}
	for _, other := range []int{n, 0, 1, limit} {
		if same, ok := impl.SameDigits(n, other, base); same || ok {
			t.Errorf("SameDigits of %d and %d in base %d: %v %v", n, other, base, same, ok)
		}
		if same, ok := impl.SameDigits(other, n, base); same || ok {
			t.Errorf("SameDigits of %d and %d in base %d: %v %v", other, n, base, same, ok)
		}
	}
}

func TestNumbersBeyondTheLimits(t *testing.T) {
	for _, n := range noNumbers {
		for _, base := range slices.Concat(bases, noBases) {
			checkNothingOf(t, n, base)
		}
	}
}

func TestBasesBeyondTheLimits(t *testing.T) {
	for _, base := range noBases {
		for _, n := range []int{0, 1, 2, 9, 10, 121, limit} {
			checkNothingOf(t, n, base)
		}
		for _, list := range [][]int{nil, {0}, {1}, {1, 0}, {1, 1}, make([]int, 40), make([]int, 41), make([]int, 17)} {
			if n, ok := impl.NumberOf(list, base); n != 0 || ok {
				t.Errorf("NumberOf %v in base %d: %d %v", list, base, n, ok)
			}
			if are, ok := impl.AreDigits(list, base); are || ok {
				t.Errorf("AreDigits of %v in base %d: %v %v", list, base, are, ok)
			}
			if n, ok := impl.LeastWith(list, base); n != 0 || ok {
				t.Errorf("LeastWith %v in base %d: %d %v", list, base, n, ok)
			}
		}
		for _, counts := range [][]int{{1}, append([]int{1}, make([]int, 16)...), append([]int{0, 1}, make([]int, 15)...)} {
			if n, ok := impl.LeastWith(counts, base); n != 0 || ok {
				t.Errorf("LeastWith %v in base %d: %d %v", counts, base, n, ok)
			}
		}
		for _, text := range []string{"", "0", "1", "10", "g"} {
			if n, ok := impl.ParseNumber(text, base); n != 0 || ok {
				t.Errorf("ParseNumber of %q in base %d: %d %v", text, base, n, ok)
			}
		}
	}
}

func TestNumbersAndBasesAtTheLimits(t *testing.T) {
	for _, base := range []int{2, 16} {
		for _, n := range []int{0, limit} {
			for _, name := range []string{"CountDigits", "DigitSum", "DigitProduct", "SortedUp", "CountRearranged", "DigitalRoot"} {
				if _, ok := digitCalls[name](n, base); !ok {
					t.Errorf("%s of %d in base %d fails", name, n, base)
				}
			}
		}
	}
}

// Each list lies within a longer array, whose numbers behind it have to stay as they are, and to have no effect.
func TestArgumentsOfDigitsStayAsTheyAre(t *testing.T) {
	for _, list := range [][]int{{}, {0}, {0, 1}, {3, 1, 2, 0}, {1, 0, 0, 0, 1, 2, 1, 0, 0, 0}, {0, 0, 2, 1, 0, 1, 0, 0, 0, 0}, {9, 9, -1}} {
		whole := append(slices.Clone(list), 7, 8, 9, 1, 0, 5)
		before := slices.Clone(whole)
		part := whole[:len(list)]
		for _, base := range slices.Concat(bases, noBases) {
			n, ok := impl.NumberOf(part, base)
			alone, aloneOK := impl.NumberOf(slices.Clone(list), base)
			if n != alone || ok != aloneOK {
				t.Errorf("NumberOf %v in base %d depends on what is behind", list, base)
			}
			n, ok = impl.LeastWith(part, base)
			alone, aloneOK = impl.LeastWith(slices.Clone(list), base)
			if n != alone || ok != aloneOK {
				t.Errorf("LeastWith %v in base %d depends on what is behind", list, base)
			}
			impl.AreDigits(part, base)
			if !slices.Equal(whole, before) {
				t.Fatalf("%v became %v in base %d", before, whole, base)
			}
		}
	}
}

func TestResultsOfDigitsAreNew(t *testing.T) {
	for _, call := range []func(int, int) ([]int, bool){impl.DigitsOf, impl.DigitCounts} {
		first, _ := call(987654, 10)
		want := slices.Clone(first)
		second, _ := call(987654, 10)
		for i := range first[:cap(first)] {
			first[:cap(first)][i] = -1
		}
		third, _ := call(987654, 10)
		if !slices.Equal(second, want) || !slices.Equal(third, want) {
			t.Error("results share memory", second, third)
		}
	}
}
