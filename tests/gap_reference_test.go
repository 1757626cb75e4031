package tests

import (
	"slices"
	"strings"
)

// The functions here subtract digit by digit with borrows, tell values by texts, and find cycles by going on from each choice of digits, so that the tests share no method with the program.

const mostWidth, mostWords = 8, 100000

var widths = []int{1, 2, 3, 4, 5, 6, 7, 8}

// isSmall reports whether there are at most MaxWords words.
func isSmall(width int, base int) bool { return powerOf(base, width) <= mostWords }

// smallShapes calls check for each width and base with at most MaxWords words.
func smallShapes(check func(width int, base int)) {
	for _, base := range bases {
		for _, width := range widths {
			if isSmall(width, base) {
				check(width, base)
			}
		}
	}
}

// stepOfWord subtracts as on paper, from the last place to the first one.
func stepOfWord(word []int, base int) []int {
	up := slices.Sorted(slices.Values(word))
	step := make([]int, len(word))
	borrowed := 0
	for i := len(word) - 1; i >= 0; i-- {
		step[i] = up[len(up)-1-i] - up[i] - borrowed
		borrowed = 0
		if step[i] < 0 {
			step[i] += base
			borrowed = 1
		}
	}
	return step
}

// gapsOfWord takes the greatest and the least digit away together, again and again.
func gapsOfWord(word []int) []int {
	left := slices.Clone(word)
	var gaps []int
	for len(left) >= 2 {
		greatest, least := slices.Max(left), slices.Min(left)
		gaps = append(gaps, greatest-least)
		at := slices.Index(left, greatest)
		left = slices.Delete(left, at, at+1)
		at = slices.Index(left, least)
		left = slices.Delete(left, at, at+1)
	}
	return gaps
}

func valueOfWord(word []int, base int) int {
	var text strings.Builder
	for _, d := range word {
		text.WriteString(textOf(d, 16))
	}
	value, _ := valueOf(text.String(), base)
	return value
}

func wordWithValue(value int, width int, base int) []int {
	digits := digitsOf(value, base)
	return slices.Concat(make([]int, width-len(digits)), digits)
}

// wordRunOf goes from a word up to the last one that was not there before, and returns these and how many of them come before the cycle.
func wordRunOf(word []int, base int) ([][]int, int) {
	var run [][]int
	for {
		first := slices.IndexFunc(run, func(other []int) bool { return slices.Equal(other, word) })
		if first >= 0 {
			return run, first
		}
		run = append(run, word)
		word = stepOfWord(word, base)
	}
}

// fromLeastWord turns a cycle so that its least word is in front.
func fromLeastWord(cycle [][]int) [][]int {
	least := slices.MinFunc(cycle, slices.Compare[[]int])
	at := slices.IndexFunc(cycle, func(word []int) bool { return slices.Equal(word, least) })
	return slices.Concat(cycle[at:], cycle[:at])
}

// wordsInOrder calls visit with each choice of digits for a width, as a word whose digits do not fall.
func wordsInOrder(width int, base int, visit func(word []int)) {
	word := make([]int, width)
	for {
		visit(word)
		i := width - 1
		for i >= 0 && word[i] == base-1 {
			i--
		}
		if i < 0 {
			return
		}
		next := word[i] + 1
		for ; i < width; i++ {
			word[i] = next
		}
	}
}

// cyclesOfWords goes on from the step of each choice of digits, up to a word that was there before.
func cyclesOfWords(width int, base int) [][][]int {
	walkAt := map[[mostWidth]int]int{}
	var cycles [][][]int
	walk := 0
	wordsInOrder(width, base, func(word []int) {
		walk++
		var way [][]int
		at, key := word, [mostWidth]int{}
		for {
			at = stepOfWord(at, base)
			copy(key[:], at)
			if walkAt[key] != 0 {
				break
			}
			walkAt[key] = walk
			way = append(way, at)
		}
		if walkAt[key] == walk {
			first := slices.IndexFunc(way, func(other []int) bool { return slices.Equal(other, at) })
			cycles = append(cycles, fromLeastWord(way[first:]))
		}
	})
	slices.SortFunc(cycles, func(a, b [][]int) int { return slices.Compare(a[0], b[0]) })
	return cycles
}

// gapListsOf has the gaps of each choice of digits, each list once.
func gapListsOf(width int, base int) [][]int {
	found := map[[mostWidth / 2]int]bool{}
	wordsInOrder(width, base, func(word []int) {
		var key [mostWidth / 2]int
		for i := range width / 2 {
			key[i] = word[width-1-i] - word[i]
		}
		found[key] = true
	})
	var lists [][]int
	for key := range found {
		lists = append(lists, slices.Clone(key[:width/2]))
	}
	slices.SortFunc(lists, slices.Compare[[]int])
	return lists
}

// endsOfWords returns for each word, by its value, how many words of its run are in no cycle, and the value of the least word of its cycle.
func endsOfWords(width int, base int) ([]int, []int) {
	next := make([]int, powerOf(base, width))
	for n := range next {
		next[n] = valueOfWord(stepOfWord(wordWithValue(n, width, base), base), base)
	}
	tails, ends := make([]int, len(next)), make([]int, len(next))
	for n := range next {
		var run []int
		m := n
		for !slices.Contains(run, m) {
			run = append(run, m)
			m = next[m]
		}
		tails[n] = slices.Index(run, m)
		ends[n] = slices.Min(run[tails[n]:])
	}
	return tails, ends
}

// wordsToTry has all words where they are few, and otherwise the least and the greatest ones, ones around the powers of the base, ones with the same digits, and some between.
func wordsToTry(width int, base int) [][]int {
	end := powerOf(base, width)
	var values []int
	if end <= 1000 {
		values = identity(end)
	} else {
		for n := range 60 {
			values = append(values, n, end-1-n, end/61*n+n*n%7)
		}
		for p := base; p < end; p *= base {
			values = append(values, p-1, p, p+1, end-p, end-p-1, end/2+p/2)
		}
		for d := range base {
			values = append(values, (end-1)/(base-1)*d)
		}
	}
	var words [][]int
	for _, n := range values {
		words = append(words, wordWithValue(n, width, base))
	}
	return words
}
