package tests

import (
	"slices"
	"testing"

	"loop.example/g01151/impl"
)

// Promise 1: digits, counts and texts tell their numbers, and numbers with the same digits are counted.

type wantInt struct {
	name string
	got  int
	ok   bool
	want int
	wok  bool
}

func checkInts(t *testing.T, n int, base int, checks []wantInt) {
	t.Helper()
	for _, c := range checks {
		if c.got != c.want || c.ok != c.wok {
			t.Errorf("%s of %d in base %d: %d %v, want %d %v", c.name, n, base, c.got, c.ok, c.want, c.wok)
		}
	}
}

func pair(n int, ok bool) wantInt { return wantInt{got: n, ok: ok} }

// is completes a call's results with a name and with what is wanted.
func (w wantInt) is(name string, want int, wok bool) wantInt {
	w.name, w.want, w.wok = name, want, wok
	return w
}

func TestLimitsAreThoseOfTheDocument(t *testing.T) {
	if impl.MaxNumber != limit || impl.MaxBase != 16 || impl.MaxDigits != 40 {
		t.Error(impl.MaxNumber, impl.MaxBase, impl.MaxDigits)
	}
}

func TestExampleOfDigits(t *testing.T) {
	if digits, ok := impl.DigitsOf(1200, 10); !ok || !slices.Equal(digits, []int{1, 2, 0, 0}) {
		t.Error("digits", digits, ok)
	}
	checkInts(t, 1200, 10, []wantInt{
		pair(impl.ReverseNumber(1200, 10)).is("reverse", 21, true),
		pair(impl.SortedUp(1200, 10)).is("up", 12, true),
		pair(impl.SortedDown(1200, 10)).is("down", 2100, true),
		pair(impl.CountRearranged(1200, 10)).is("ways", 6, true),
		pair(impl.DigitalRoot(1200, 10)).is("root", 3, true),
		pair(impl.ParseNumber("4b0", 16)).is("parse", 1200, true),
	})
	if text, ok := impl.NumberText(1200, 16); text != "4b0" || !ok {
		t.Error("text", text, ok)
	}
}

func TestDigitsAndTextsTellTheirNumbers(t *testing.T) {
	for _, base := range bases {
		for _, n := range numbersToTry(base) {
			wantText, want := textOf(n, base), digitsOf(n, base)
			digits, ok := impl.DigitsOf(n, base)
			if !ok || !slices.Equal(digits, want) {
				t.Fatalf("DigitsOf %d in base %d: %v %v", n, base, digits, ok)
			}
			text, ok := impl.NumberText(n, base)
			if !ok || text != wantText {
				t.Fatalf("NumberText of %d in base %d: %q %v", n, base, text, ok)
			}
			if are, ok := impl.AreDigits(want, base); !are || !ok {
				t.Fatalf("AreDigits of %v in base %d: %v %v", want, base, are, ok)
			}
			checkInts(t, n, base, []wantInt{
				pair(impl.NumberOf(want, base)).is("NumberOf", n, true),
				pair(impl.ParseNumber(wantText, base)).is("ParseNumber", n, true),
				pair(impl.CountDigits(n, base)).is("CountDigits", len(wantText), true),
			})
		}
	}
}

func TestSumsAndProducts(t *testing.T) {
	for _, base := range bases {
		for _, n := range numbersToTry(base) {
			sum, product := 0, 1
			for _, d := range digitsOf(n, base) {
				sum, product = sum+d, product*d
			}
			root := 0
			if n > 0 { // digit sums keep the remainder by base - 1
				root = (n-1)%(base-1) + 1
			}
			checkInts(t, n, base, []wantInt{
				pair(impl.DigitSum(n, base)).is("DigitSum", sum, true),
				pair(impl.DigitProduct(n, base)).is("DigitProduct", product, true),
				pair(impl.DigitalRoot(n, base)).is("DigitalRoot", root, true),
			})
		}
	}
}

func TestReversedAndSorted(t *testing.T) {
	for _, base := range bases {
		for _, n := range numbersToTry(base) {
			text := textOf(n, base)
			reversed, reversedOK := valueOf(backwards(text), base)
			up, upOK := valueOf(sortedText(text), base)
			down, downOK := valueOf(backwards(sortedText(text)), base)
			checkInts(t, n, base, []wantInt{
				pair(impl.ReverseNumber(n, base)).is("ReverseNumber", reversed, reversedOK),
				pair(impl.SortedUp(n, base)).is("SortedUp", up, upOK),
				pair(impl.SortedDown(n, base)).is("SortedDown", down, downOK),
			})
			if is, ok := impl.IsPalindrome(n, base); !ok || is != isSymmetricText(text) {
				t.Fatalf("IsPalindrome of %d in base %d: %v %v", n, base, is, ok)
			}
		}
	}
}

func TestReversedAndSortedAtTheLimit(t *testing.T) {
	most := 1 << 39 // the greatest power of 2 that is a number has 40 digits
	checkInts(t, most, 2, []wantInt{
		pair(impl.CountDigits(most, 2)).is("CountDigits", 40, true),
		pair(impl.ReverseNumber(most, 2)).is("ReverseNumber", 1, true),
		pair(impl.SortedUp(most+5, 2)).is("SortedUp", 7, true),
		pair(impl.SortedDown(most+1, 2)).is("SortedDown", most+most/2, true),
		pair(impl.SortedDown(most+3, 2)).is("SortedDown of three ones", most+most/2+most/4, true),
		pair(impl.SortedDown(most+15, 2)).is("SortedDown of five ones", 0, false),
		pair(impl.ReverseNumber(most+15, 2)).is("ReverseNumber of ones behind", 0, false),
		pair(impl.ReverseNumber(limit, 10)).is("ReverseNumber of 10^12", 1, true),
		pair(impl.SortedDown(limit, 10)).is("SortedDown of 10^12", limit, true),
		pair(impl.SortedUp(limit, 10)).is("SortedUp of 10^12", 1, true),
		pair(impl.ReverseNumber(limit-1, 10)).is("ReverseNumber of 10^12 - 1", limit-1, true),
	})
}

// The reversed or sorted number may meet MaxNumber exactly.
func TestReversedAndSortedMayMeetTheLimit(t *testing.T) {
	met := 0
	for _, base := range bases {
		text := textOf(limit, base)
		if text[len(text)-1] != '0' {
			n, ok := valueOf(backwards(text), base)
			if ok {
				met++
				checkInts(t, n, base, []wantInt{pair(impl.ReverseNumber(n, base)).is("ReverseNumber", limit, true)})
			}
		}
		above := textOf(limit+1, base)
		if n, ok := valueOf(backwards(above), base); ok && above[len(above)-1] != '0' {
			met++
			checkInts(t, n, base, []wantInt{pair(impl.ReverseNumber(n, base)).is("ReverseNumber", 0, false)})
		}
	}
	if met < 4 {
		t.Error("too few bases reach the limit:", met)
	}
}

func TestNextPalindromeOfSmallNumbers(t *testing.T) {
	for _, base := range bases {
		next := 1 << 16
		for !isSymmetricText(textOf(next, base)) {
			next++
		}
		for n := next - 1; n >= 0; n-- {
			if isSymmetricText(textOf(n+1, base)) {
				next = n + 1
			}
			if got, ok := impl.NextPalindrome(n, base); got != next || !ok {
				t.Fatalf("NextPalindrome of %d in base %d: %d %v, want %d", n, base, got, ok, next)
			}
		}
	}
}

func TestNextPalindromeGrowsByADigit(t *testing.T) {
	for _, base := range bases {
		for p := base; p < limit; p *= base {
			checkInts(t, p-1, base, []wantInt{
				pair(impl.NextPalindrome(p-1, base)).is("NextPalindrome", p+1, true),
				pair(impl.NextPalindrome(p, base)).is("NextPalindrome of a power", p+1, true),
			})
			if p > base {
				checkInts(t, p-2, base, []wantInt{pair(impl.NextPalindrome(p-2, base)).is("NextPalindrome", p-1, true)})
			}
		}
	}
	checkInts(t, 0, 10, []wantInt{
		pair(impl.NextPalindrome(0, 10)).is("NextPalindrome of 0", 1, true),
		pair(impl.NextPalindrome(9, 10)).is("NextPalindrome of 9", 11, true),
		pair(impl.NextPalindrome(999, 10)).is("NextPalindrome of 999", 1001, true),
		pair(impl.NextPalindrome(1991, 10)).is("NextPalindrome of 1991", 2002, true),
		pair(impl.NextPalindrome(123456654320, 10)).is("NextPalindrome", 123456654321, true),
		pair(impl.NextPalindrome(123456654321, 10)).is("NextPalindrome", 123457754321, true),
		pair(impl.NextPalindrome(199999999991, 10)).is("NextPalindrome", 200000000002, true),
	})
}

func TestNextPalindromeAtTheLimit(t *testing.T) {
	for _, base := range bases {
		last := limit
		for !isSymmetricText(textOf(last, base)) {
			last--
		}
		before := last - 1
		for !isSymmetricText(textOf(before, base)) {
			before--
		}
		checkInts(t, last, base, []wantInt{
			pair(impl.NextPalindrome(before, base)).is("NextPalindrome of the last but one", last, true),
			pair(impl.NextPalindrome(last-1, base)).is("NextPalindrome just below the last", last, true),
			pair(impl.NextPalindrome(last, base)).is("NextPalindrome of the last", 0, false),
			pair(impl.NextPalindrome(limit, base)).is("NextPalindrome of MaxNumber", 0, false),
		})
	}
}

func TestDigitCountsTellNumbers(t *testing.T) {
	for _, base := range bases {
		for _, n := range numbersToTry(base) {
			want := countsOf(n, base)
			counts, ok := impl.DigitCounts(n, base)
			if !ok || !slices.Equal(counts, want) {
				t.Fatalf("DigitCounts of %d in base %d: %v %v", n, base, counts, ok)
			}
			ways, ok := impl.CountRearranged(n, base)
			if n == 0 {
				if ways != 1 || !ok {
					t.Errorf("CountRearranged of 0 in base %d: %d %v", base, ways, ok)
				}
			} else if !ok || waysOfCounts(want).Int64() != int64(ways) {
				t.Fatalf("CountRearranged of %d in base %d: %d %v", n, base, ways, ok)
			}
		}
	}
}

// The numbers with the same count of digits are told apart by their sorted texts: each group has its least number and its size.
func TestGroupsOfNumbersWithTheSameDigits(t *testing.T) {
	for _, base := range bases {
		end := base
		for end < 1500 {
			end *= base
		}
		least, size := map[string]int{}, map[string]int{}
		for n := end - 1; n >= 0; n-- {
			group := sortedText(textOf(n, base))
			least[group] = n
			size[group]++
		}
		for n := range end {
			group := sortedText(textOf(n, base))
			checkInts(t, n, base, []wantInt{
				pair(impl.LeastWith(countsOf(n, base), base)).is("LeastWith", least[group], true),
				pair(impl.CountRearranged(n, base)).is("CountRearranged", size[group], true),
			})
			if same, ok := impl.SameDigits(least[group], n, base); !same || !ok {
				t.Fatalf("SameDigits of %d and %d in base %d: %v %v", least[group], n, base, same, ok)
			}
		}
	}
}

func TestSameDigits(t *testing.T) {
	for _, base := range bases {
		for a := range 120 {
			for b := range 120 {
				want := sortedText(textOf(a, base)) == sortedText(textOf(b, base))
				if same, ok := impl.SameDigits(a, b, base); same != want || !ok {
					t.Fatalf("SameDigits of %d and %d in base %d: %v %v", a, b, base, same, ok)
				}
			}
		}
	}
	if same, ok := impl.SameDigits(limit, 1, 10); same || !ok {
		t.Error("zeros count", same, ok)
	}
	if same, ok := impl.SameDigits(limit, limit, 2); !same || !ok {
		t.Error("limit", same, ok)
	}
}

func TestCountRearrangedBeyondTheLimit(t *testing.T) {
	halfOnes := 1<<39 + 1<<19 - 1 // 20 digits 1 and 20 digits 0
	checkInts(t, halfOnes, 2, []wantInt{
		pair(impl.CountRearranged(halfOnes, 2)).is("CountRearranged", 68923264410, true),
		pair(impl.CountRearranged(limit, 10)).is("CountRearranged of 10^12", 1, true),
		pair(impl.CountRearranged(123456789012, 10)).is("CountRearranged of twelve digits", 109771200, true),
	})
}
