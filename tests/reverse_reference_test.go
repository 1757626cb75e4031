package tests

import (
	"math/big"
	"slices"
	"strings"
)

// The functions here add, subtract and turn texts as big numbers, count sources by all ways to carry, and remember how often each text has to be added: so the tests share no method with the program.

const (
	mostLong, mostAdded                = 40, 100
	mostSpreadWidth, mostSpreadNumbers = 14, 20000
	mostSourceDigits                   = 12
)

func lettersOf(digits []int) string {
	var text strings.Builder
	for _, d := range digits {
		text.WriteString(textOf(d, 16))
	}
	return text.String()
}

func digitsOfLetters(text string) []int {
	var digits []int
	for _, letter := range text {
		digits = append(digits, strings.IndexRune("0123456789abcdef", letter))
	}
	return digits
}

func bigOf(text string, base int) *big.Int {
	n, ok := new(big.Int).SetString(text, base)
	if !ok {
		panic("no digits of base: " + text)
	}
	return n
}

func addedText(text string, base int) string {
	return new(big.Int).Add(bigOf(text, base), bigOf(backwards(text), base)).Text(base)
}

func subtractedText(text string, base int) string {
	difference := new(big.Int).Sub(bigOf(text, base), bigOf(backwards(text), base))
	return difference.Abs(difference).Text(base)
}

// carriesOfText finds a carry wherever the ends of both numbers have a sum with one more place.
func carriesOfText(text string, base int) []int {
	turned := backwards(text)
	var carries []int
	for i := len(text) - 1; i >= 0; i-- {
		end := new(big.Int).Exp(big.NewInt(int64(base)), big.NewInt(int64(len(text)-i)), nil)
		sum := new(big.Int).Add(bigOf(text[i:], base), bigOf(turned[i:], base))
		carry := 0
		if sum.Cmp(end) >= 0 {
			carry = 1
		}
		carries = append(carries, carry)
	}
	return carries
}

// runOfText has a text and those behind it, and tells whether the last one is symmetric.
func runOfText(text string, base int, most int) ([]string, bool) {
	run := []string{text}
	for !isSymmetricText(text) {
		text = addedText(text, base)
		if len(run) > most || len(text) > mostLong {
			return run, false
		}
		run = append(run, text)
	}
	return run, true
}

// timesOf remembers for each text of a base how many times it needs, as many as that may be, or -1.
type timesOf struct {
	base  int
	known map[string]int
}

func (times timesOf) text(text string) int {
	if k, ok := times.known[text]; ok {
		return k
	}
	k := 0
	if !isSymmetricText(text) {
		k = -1
		if next := addedText(text, times.base); len(next) <= mostLong {
			if behind := times.text(next); behind >= 0 {
				k = behind + 1
			}
		}
	}
	times.known[text] = k
	return k
}

// timesOfAll returns for all numbers of a width, the least one first, how many times they need, or -1 if these are more than most, or if they do not come to symmetric digits.
func timesOfAll(width int, base int, most int, known timesOf) []int {
	var all []int
	for n := powerOf(base, width-1); n < powerOf(base, width); n++ {
		k := known.text(textOf(n, base))
		if k > most {
			k = -1
		}
		all = append(all, k)
	}
	return all
}

func isSpread(width int, base int) bool {
	return powerOf(base, width)-powerOf(base, width-1) <= mostSpreadNumbers
}

// spreadShapes calls check for each width and base whose numbers are looked through.
func spreadShapes(check func(width int, base int, known timesOf)) {
	for _, base := range bases {
		known := timesOf{base, map[string]int{}}
		for width := 1; width <= mostSpreadWidth && isSpread(width, base); width++ {
			check(width, base, known)
		}
	}
}

// sourcesByCarries tries all ways to carry, each of which tells what two digits are together. It returns how many lists there are, and the first one.
func sourcesByCarries(digits []int, base int) (int, []int) {
	total := 0
	var first []int
	for _, width := range []int{len(digits) - 1, len(digits)} {
		if width == 0 || width < len(digits) && digits[0] != 1 {
			continue
		}
		places := slices.Clone(digits[len(digits)-width:])
		slices.Reverse(places)
		var ofWidth []int
		for ways := range 1 << (width - 1) {
			carries := make([]int, width+1)
			for i := 1; i < width; i++ {
				carries[i] = ways >> (i - 1) & 1
			}
			carries[width] = len(digits) - width
			count, list := sourcesWith(places, carries, base)
			if count > 0 && (ofWidth == nil || slices.Compare(list, ofWidth) < 0) {
				ofWidth = list
			}
			total += count
		}
		if first == nil {
			first = ofWidth
		}
	}
	return total, first
}

// sourcesWith counts the lists that make these places, the last one first, with these carries.
func sourcesWith(places []int, carries []int, base int) (int, []int) {
	width := len(places)
	count := 1
	list := make([]int, width)
	for i := range (width + 1) / 2 {
		j := width - 1 - i
		pair := places[i] + base*carries[i+1] - carries[i]
		if pair != places[j]+base*carries[j+1]-carries[j] {
			return 0, nil
		}
		ways := 0
		for front := base - 1; front >= 0; front-- {
			back := pair - front
			if back < 0 || back >= base || i == 0 && front == 0 || i == j && front != back {
				continue
			}
			ways++
			list[i], list[j] = front, back
		}
		count *= ways
	}
	return count, list
}

// sumsOfAll adds reversed all numbers with at most some digits, and keeps for each sum how many led there, and the least of them.
func sumsOfAll(width int, base int) (map[string]int, map[string]string) {
	counts, least := map[string]int{}, map[string]string{}
	for n := 1; n < powerOf(base, width); n++ {
		text := textOf(n, base)
		sum := addedText(text, base)
		if counts[sum]++; counts[sum] == 1 {
			least[sum] = text
		}
	}
	return counts, least
}

func symmetricList(list []int) bool { return isSymmetricText(lettersOf(list)) }

// longDigitsToTry has small numbers and, for lengths up to the limit, lists of the same digits, ones around the powers of the base, ones that repeat two digits, symmetric ones, and some between.
func longDigitsToTry(base int) [][]int {
	var lists [][]int
	for n := range 300 {
		lists = append(lists, digitsOf(n, base))
	}
	for length := 1; length <= mostLong; length++ {
		zeros := make([]int, length-1)
		for d := range base - 1 {
			lists = append(lists, slices.Repeat([]int{d + 1}, length))
		}
		lists = append(lists,
			append([]int{1}, zeros...),
			append([]int{base - 1}, zeros...),
			append(slices.Repeat([]int{1, 0}, length)[:length-1], 1),
			slices.Repeat([]int{base - 1, 0}, length)[:length],
			slices.Repeat([]int{(base + 1) / 2, base / 2}, length)[:length],
		)
		for k := range 6 {
			list := make([]int, length)
			for i := range list {
				list[i] = (i*i*(k+3) + i*(k+1)*5/3 + i*k*k/7 + k) % base
			}
			list[0] = 1 + (k+length)%(base-1)
			lists = append(lists, list)
			half := slices.Clone(list[:(length+1)/2])
			turned := slices.Clone(half[:length/2])
			slices.Reverse(turned)
			lists = append(lists, slices.Concat(half, turned))
		}
	}
	return lists
}
