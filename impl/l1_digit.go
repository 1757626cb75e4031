package impl

import (
	"slices"
	"strings"
)

const MaxNumber = 1000000000000
const MaxBase = 16
const MaxDigits = 40

const digitLetters = "0123456789abcdef"

// DigitsOf returns the digits of a number.
func DigitsOf(n int, base int) ([]int, bool) { return tell(n, base, radix.digits) }

// NumberOf returns the number with given digits. It fails if they are no digits of a number in 0..MaxNumber.
func NumberOf(digits []int, base int) (int, bool) {
	if !isBase(base) || len(digits) > MaxDigits {
		return 0, false
	}
	return radix(base).numberOf(digits)
}

// AreDigits reports whether a list, whose numbers may be any, are the digits of some number, also one greater than MaxNumber.
func AreDigits(digits []int, base int) (bool, bool) {
	if !isBase(base) || len(digits) > MaxDigits {
		return false, false
	}
	return radix(base).areDigits(digits), true
}

// CountDigits returns how many digits a number has.
func CountDigits(n int, base int) (int, bool) { return tell(n, base, radix.countDigits) }

// DigitSum returns the sum of the digits.
func DigitSum(n int, base int) (int, bool) { return tell(n, base, radix.digitSum) }

// DigitProduct returns the product of the digits.
func DigitProduct(n int, base int) (int, bool) { return tell(n, base, radix.digitProduct) }

// ReverseNumber returns the number with the digits in the other order, zeros in front left out; 0 for 0. It fails if it is greater than MaxNumber.
func ReverseNumber(n int, base int) (int, bool) { return find(n, base, radix.reversed) }

// IsPalindrome reports whether the digits are the same in the other order.
func IsPalindrome(n int, base int) (bool, bool) { return tell(n, base, radix.isPalindrome) }

// NextPalindrome returns the least number greater than n whose digits are the same in the other order. It fails if it is greater than MaxNumber.
func NextPalindrome(n int, base int) (int, bool) { return find(n, base, radix.nextPalindrome) }

// SortedUp returns the number with the digits in order, none less than the one before, zeros in front left out.
func SortedUp(n int, base int) (int, bool) { return find(n, base, radix.sortedUp) }

// SortedDown returns the number with the digits in the other order, none greater than the one before. It fails if it is greater than MaxNumber.
func SortedDown(n int, base int) (int, bool) { return find(n, base, radix.sortedDown) }

// DigitCounts returns for each digit 0..base - 1 how often it comes.
func DigitCounts(n int, base int) ([]int, bool) { return tell(n, base, radix.digitCounts) }

// LeastWith returns the least number with DigitCounts counts, base numbers in 0..MaxDigits. It fails if there is none in 0..MaxNumber.
func LeastWith(counts []int, base int) (int, bool) {
	if !isBase(base) || !radix(base).areCounts(counts) {
		return 0, false
	}
	return radix(base).leastWith(counts)
}

// SameDigits reports whether two numbers have the same DigitCounts.
func SameDigits(a int, b int, base int) (bool, bool) {
	ofA, okA := DigitCounts(a, base)
	ofB, okB := DigitCounts(b, base)
	if !okA || !okB {
		return false, false
	}
	return slices.Equal(ofA, ofB), true
}

// CountRearranged returns how many numbers have the same DigitCounts as n, also ones greater than MaxNumber.
func CountRearranged(n int, base int) (int, bool) { return tell(n, base, radix.countRearranged) }

// DigitalRoot returns the number below base that is reached by taking DigitSum again and again.
func DigitalRoot(n int, base int) (int, bool) { return tell(n, base, radix.digitalRoot) }

// NumberText returns the digits, 0 to 9 and a to f for 10 to 15.
func NumberText(n int, base int) (string, bool) { return tell(n, base, radix.text) }

// ParseNumber returns the number with a NumberText. It fails if there is none.
func ParseNumber(s string, base int) (int, bool) {
	if !isBase(base) || len(s) > MaxDigits {
		return 0, false
	}
	digits := make([]int, len(s))
	for i := range digits {
		// A byte that is no letter of a digit becomes -1, which no base has as a digit.
		digits[i] = strings.IndexByte(digitLetters, s[i])
	}
	return radix(base).numberOf(digits)
}

func isNumber(n int) bool { return 0 <= n && n <= MaxNumber }

func isBase(base int) bool { return 2 <= base && base <= MaxBase }

// radix is a valid base. Its methods take only valid numbers and check neither, as tell and find have done so.
type radix int

// tell asks a number in a base what every number has an answer to.
func tell[T any](n int, base int, question func(radix, int) T) (T, bool) {
	if !isNumber(n) || !isBase(base) {
		var none T
		return none, false
	}
	return question(radix(base), n), true
}

// find asks a number in a base what some numbers have no answer to: a question that fails answers with the zero value.
func find[T any](n int, base int, question func(radix, int) (T, bool)) (T, bool) {
	if !isNumber(n) || !isBase(base) {
		var none T
		return none, false
	}
	return question(radix(base), n)
}

func sumOf[N ~int](numbers []N) N {
	var sum N
	for _, n := range numbers {
		sum += n
	}
	return sum
}

func (r radix) digits(n int) []int {
	digits := []int{n % int(r)}
	for n >= int(r) {
		n /= int(r)
		digits = append(digits, n%int(r))
	}
	slices.Reverse(digits)
	return digits
}

// number reads digits, also with zeros in front. It stops beyond MaxNumber, as the value of a long list has no place in an int.
func (r radix) number(digits []int) (int, bool) {
	n := 0
	for _, d := range digits {
		n = n*int(r) + d
		if n > MaxNumber {
			return 0, false
		}
	}
	return n, true
}

func (r radix) areDigits(digits []int) bool {
	if len(digits) == 0 || len(digits) > 1 && digits[0] == 0 {
		return false
	}
	for _, d := range digits {
		if d < 0 || d >= int(r) {
			return false
		}
	}
	return true
}

func (r radix) numberOf(digits []int) (int, bool) {
	if !r.areDigits(digits) {
		return 0, false
	}
	return r.number(digits)
}

func (r radix) countDigits(n int) int { return len(r.digits(n)) }

func (r radix) digitSum(n int) int { return sumOf(r.digits(n)) }

func (r radix) digitProduct(n int) int {
	product := 1
	for _, d := range r.digits(n) {
		product *= d
	}
	return product
}

func (r radix) reversed(n int) (int, bool) {
	digits := r.digits(n)
	slices.Reverse(digits)
	return r.number(digits)
}

func (r radix) isPalindrome(n int) bool {
	digits := r.digits(n)
	return slices.Equal(digits, mirrored(digits))
}

func (r radix) nextPalindrome(n int) (int, bool) {
	least := r.digits(n + 1)
	next := mirrored(least)
	if slices.Compare(next, least) < 0 {
		r.raiseFront(next)
		next = mirrored(next)
	}
	return r.number(next)
}

// raiseFront adds 1 to the front half, with the middle, of digits whose mirror image is too small. If all digits of that half were base - 1, the image would be the greatest number with as many digits and not too small: so the carry ends within the half.
func (r radix) raiseFront(digits []int) {
	i := (len(digits) - 1) / 2
	for digits[i] == int(r)-1 {
		digits[i] = 0
		i--
	}
	digits[i]++
}

// mirrored returns a copy of digits whose back half is the front half in the other order.
func mirrored(digits []int) []int {
	image := slices.Clone(digits)
	for i := range len(image) / 2 {
		image[len(image)-1-i] = image[i]
	}
	return image
}

func (r radix) sortedUp(n int) (int, bool) {
	digits := r.digits(n)
	slices.Sort(digits)
	return r.number(digits)
}

func (r radix) sortedDown(n int) (int, bool) {
	digits := r.digits(n)
	slices.Sort(digits)
	slices.Reverse(digits)
	return r.number(digits)
}

func (r radix) digitCounts(n int) []int {
	counts := make([]int, r)
	for _, d := range r.digits(n) {
		counts[d]++
	}
	return counts
}

func (r radix) areCounts(counts []int) bool {
	if len(counts) != int(r) {
		return false
	}
	for _, c := range counts {
		if c < 0 || c > MaxDigits {
			return false
		}
	}
	return true
}

func (r radix) leastWith(counts []int) (int, bool) {
	var digits []int
	for d, c := range counts {
		digits = append(digits, slices.Repeat([]int{d}, c)...)
	}
	// The least digit that may stand in front takes the place of the first zero, if there is one.
	if front := counts[0]; front < len(digits) {
		digits[0], digits[front] = digits[front], digits[0]
	}
	return r.numberOf(digits)
}

func (r radix) countRearranged(n int) int {
	if n == 0 {
		return 1 // the only number whose first digit is 0
	}
	counts := r.digitCounts(n)
	places := sumOf(counts)
	// The zeros choose their places before the other digits, as the first place is not open to them.
	ways := choose(places-1, counts[0])
	places -= counts[0]
	for _, c := range counts[1:] {
		ways *= choose(places, c)
		places -= c
	}
	return ways
}

// choose returns how many sets of k of n places there are. Each of its products is a number of such sets times at most n, which is far below the limit of an int for MaxDigits places.
func choose(n int, k int) int {
	ways := 1
	for i := range k {
		ways = ways * (n - i) / (i + 1)
	}
	return ways
}

func (r radix) digitalRoot(n int) int {
	for n >= int(r) {
		n = r.digitSum(n)
	}
	return n
}

func (r radix) text(n int) string {
	var text strings.Builder
	for _, d := range r.digits(n) {
		text.WriteByte(digitLetters[d])
	}
	return text.String()
}
