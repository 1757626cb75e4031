package tests

import (
	"math/big"
	"slices"
	"strings"
	"testing"

	"loop.example/g01151/impl"
)

// Promise 7: parity words tell remainders, and levels of the tree have the numbers with as many steps.

// checkWithin is for functions that fail exactly where they would lead beyond the limit.
func checkWithin(t *testing.T, name string, n int, with int, got int, ok bool, want int) {
	t.Helper()
	if want > limit {
		want = -1
	}
	checkFound(t, name, n, with, got, ok, want)
}

func checkText(t *testing.T, name string, n int, k int, got string, ok bool, want string) {
	t.Helper()
	if got != want || !ok {
		t.Fatalf("%s of %d with %d: %q %v, want %q", name, n, k, got, ok, want)
	}
}

// checkWayToOne takes nothing for a number with no way within the limits.
func checkWayToOne(t *testing.T, n int, want []int) {
	t.Helper()
	way, ok := impl.WayToOne(n)
	if len(want) == 0 {
		checkNoList(t, "WayToOne", way, ok)
		checkInts(t, n, 0, []wantInt{
			pair(impl.StepsTo(n)).is("StepsTo", 0, false),
			pair(impl.GreatestOn(n)).is("GreatestOn", 0, false),
		})
		return
	}
	checkNumbers(t, "WayToOne", 0, n, way, ok, want)
	checkInts(t, n, 0, []wantInt{
		pair(impl.StepsTo(n)).is("StepsTo", len(want)-1, true),
		pair(impl.GreatestOn(n)).is("GreatestOn", slices.Max(want), true),
	})
}

// checkShort asks for k letters and steps, where some of the walk may be beyond the limit.
func checkShort(t *testing.T, n int, k int) {
	t.Helper()
	walk := shortWalk(n, k)
	word, ok := impl.ParityWord(n, k)
	odd, oddOK := impl.OddCount(n, k)
	if isWithinLimit(walk[:k]) {
		want := lettersOfWalk(walk[:k])
		checkText(t, "ParityWord", n, k, word, ok, want)
		checkFound(t, "OddCount", n, k, odd, oddOK, strings.Count(want, "1"))
	} else {
		checkNoWordOfSteps(t, n, k)
	}
	after, ok := impl.AfterShort(n, k)
	if isWithinLimit(walk) {
		checkFound(t, "AfterShort", n, k, after, ok, walk[k])
	} else {
		checkNoInt(t, "AfterShort", after, ok)
	}
}

func checkCyclesWith(t *testing.T, d int, most int, want [][]int) {
	t.Helper()
	cycles, ok := impl.CyclesWith(d, most)
	if !ok || !slices.EqualFunc(cycles, want, slices.Equal[[]int]) {
		t.Fatalf("CyclesWith %d from numbers up to %d: %v %v, want %v", d, most, cycles, ok, want)
	}
}

func checkCycleOfWord(t *testing.T, w string, want *big.Rat) {
	t.Helper()
	num, den, ok := impl.CycleOfWord(w)
	if !ok || int64(num) != want.Num().Int64() || int64(den) != want.Denom().Int64() {
		t.Fatalf("CycleOfWord of %q: %d %d %v, want %v", w, num, den, ok, want)
	}
}

func TestLimitsOfStepsAreThoseOfTheDocument(t *testing.T) {
	if impl.MaxSteps != mostSteps || impl.MaxWord != mostLetters {
		t.Error(impl.MaxSteps, impl.MaxWord)
	}
}

func TestExampleOfSteps(t *testing.T) {
	checkWayToOne(t, 7, []int{7, 22, 11, 34, 17, 52, 26, 13, 40, 20, 10, 5, 16, 8, 4, 2, 1})
	checkInts(t, 7, 0, []wantInt{
		pair(impl.StepsTo(7)).is("StepsTo", 16, true),
		pair(impl.GreatestOn(7)).is("GreatestOn", 52, true),
		pair(impl.StepOf(7)).is("StepOf", 22, true),
		pair(impl.ShortStep(7)).is("ShortStep", 11, true),
		pair(impl.NumberOfWord("1110")).is("NumberOfWord", 7, true),
		pair(impl.OddCount(7, 4)).is("OddCount", 3, true),
		pair(impl.AfterShort(7, 4)).is("AfterShort", 13, true),
		pair(impl.FallsBelow(7)).is("FallsBelow", 11, true), // 5
	})
	word, ok := impl.ParityWord(7, 4)
	checkText(t, "ParityWord", 7, 4, word, ok, "1110")
	level, ok := impl.LevelOf(5)
	checkNumbers(t, "LevelOf", 0, 5, level, ok, []int{5, 32})
	checkCycleOfWord(t, "10", big.NewRat(1, 1))
}

func TestSteps(t *testing.T) {
	some, none := 0, 0
	for _, n := range startsToTry() {
		want := stepBehind(n, 1)
		next, ok := impl.StepOf(n)
		checkWithin(t, "StepOf", n, 1, next, ok, want)
		next, ok = impl.ShortStep(n)
		checkWithin(t, "ShortStep", n, 1, next, ok, shortWalk(n, 1)[1])
		for _, d := range stepsAdded() {
			next, ok = impl.StepWith(n, d)
			checkWithin(t, "StepWith", n, d, next, ok, stepBehind(n, d))
		}
		if want > limit {
			none++
		} else {
			some++
		}
	}
	if some == 0 || none == 0 {
		t.Error("few numbers", some, none)
	}
}

func TestWaysToOne(t *testing.T) {
	some, none := 0, 0
	for _, n := range startsToTry() {
		want := wayOfSteps(n)
		checkWayToOne(t, n, want)
		if len(want) == 0 {
			none++
		} else {
			some++
		}
	}
	if some == 0 || none == 0 {
		t.Error("few numbers", some, none)
	}
	_, steps := stepsOfAll(20000)
	for n := 1; n < len(steps); n++ {
		got, ok := impl.StepsTo(n)
		checkFound(t, "StepsTo", n, 1, got, ok, steps[n])
	}
	checkInts(t, 27, 0, []wantInt{
		pair(impl.StepsTo(27)).is("StepsTo", 111, true),
		pair(impl.GreatestOn(27)).is("GreatestOn", 9232, true),
	})
}

func TestParityWords(t *testing.T) {
	for _, n := range startsToTry() {
		for k := range mostLetters + 1 {
			checkShort(t, n, k)
		}
	}
}

// Numbers have the same word exactly if they leave the same remainder.
func TestParityWordsTellRemainders(t *testing.T) {
	for k := range 11 {
		numbers := 1 << k
		remainders := map[string]int{}
		for n := 1; n <= 3*numbers+2; n++ {
			word, ok := impl.ParityWord(n, k)
			if !ok || len(word) != k {
				t.Fatalf("ParityWord of %d with %d: %q %v", n, k, word, ok)
			}
			if remainder, known := remainders[word]; known && remainder != n%numbers {
				t.Fatalf("%d and numbers that leave %d by %d have the word %q", n, remainder, numbers, word)
			}
			remainders[word] = n % numbers
		}
		if len(remainders) != numbers {
			t.Errorf("%d words of %d letters", len(remainders), k)
		}
	}
	// Numbers that are far apart have the same word too.
	for k := range mostLetters + 1 {
		for n := 1; n <= 1<<k; n += 1<<k/50 + 1 {
			want, _ := impl.ParityWord(n, k)
			for _, times := range []int{1, 2, 3, 1000, 1001} {
				word, ok := impl.ParityWord(n+times<<k, k)
				if isWithinLimit(shortWalk(n+times<<k, k)) || ok {
					checkText(t, "ParityWord", n+times<<k, k, word, ok, want)
				}
			}
		}
	}
}

func TestNumbersOfWords(t *testing.T) {
	for k := range 13 {
		for n := 1; n <= 1<<k; n++ {
			word := lettersOfWalk(shortWalk(n, k)[:k])
			number, ok := impl.NumberOfWord(word)
			checkFound(t, "NumberOfWord", n, k, number, ok, n)
		}
		for _, word := range wordsOfLength(k) {
			number, ok := impl.NumberOfWord(word)
			if !ok || number < 1 || number > 1<<k {
				t.Fatalf("NumberOfWord of %q: %d %v", word, number, ok)
			}
			back, ok := impl.ParityWord(number, k)
			checkText(t, "ParityWord", number, k, back, ok, word)
		}
	}
	for k := 13; k <= mostLetters; k++ {
		for n := 1; n <= 1<<k; n += 1<<k/1700 + 1 {
			number, ok := impl.NumberOfWord(lettersOfWalk(shortWalk(n, k)[:k]))
			checkFound(t, "NumberOfWord", n, k, number, ok, n)
		}
	}
}

// Behind k short steps, n = m + 2^k q is 3 to the power of the count of letters 1, times q, more than m.
func TestRemaindersTellWhatIsBehindShortSteps(t *testing.T) {
	asked := 0
	for _, n := range startsToTry() {
		for k := range mostLetters + 1 {
			after, ok := impl.AfterShort(n, k)
			if !ok {
				continue
			}
			word, _ := impl.ParityWord(n, k)
			m, _ := impl.NumberOfWord(word)
			odd, _ := impl.OddCount(m, k)
			least, leastOK := impl.AfterShort(m, k)
			if !leastOK || (n-m)%(1<<k) != 0 || after != least+(n-m)>>k*powerOf(3, odd) {
				t.Fatalf("AfterShort of %d with %d: %d, but %d for %d", n, k, after, least, m)
			}
			// The sum over the letters 1 tells it as well.
			if after<<k != n*powerOf(3, odd)+sumOfWord(word) {
				t.Fatalf("AfterShort of %d with %d: %d, but the word is %q", n, k, after, word)
			}
			asked++
		}
	}
	if asked < 30000 {
		t.Error("few numbers", asked)
	}
}

func TestNumbersBeforeSteps(t *testing.T) {
	const most = 3000
	before := map[int][]int{}
	for n := 1; n <= 2*most; n++ {
		next := stepBehind(n, 1)
		before[next] = append(before[next], n)
	}
	for n := 1; n <= most; n++ {
		numbers, ok := impl.BeforeStep(n)
		checkNumbers(t, "BeforeStep", 0, n, numbers, ok, before[n])
	}
	counts := map[int]int{}
	for _, n := range startsToTry() {
		var want []int
		for _, around := range []int{n / 3, 2 * n} {
			for m := max(1, around-2); m <= around+2 && m <= limit; m++ {
				if stepBehind(m, 1) == n && !slices.Contains(want, m) {
					want = append(want, m)
				}
			}
		}
		numbers, ok := impl.BeforeStep(n)
		checkNumbers(t, "BeforeStep", 0, n, numbers, ok, want)
		for _, m := range numbers {
			checkInts(t, m, 0, []wantInt{pair(impl.StepOf(m)).is("StepOf what is before", n, true)})
		}
		counts[len(want)]++
	}
	if counts[0] == 0 || counts[1] == 0 || counts[2] == 0 {
		t.Error("few numbers", counts)
	}
}

// No number above 2^k comes to 1 in k steps, as a step at most halves.
func TestLevels(t *testing.T) {
	_, steps := stepsOfAll(1 << mostLevel)
	for k := range mostLevel + 1 {
		var want []int
		for n := 1; n < len(steps); n++ {
			if steps[n] == k {
				want = append(want, n)
			}
		}
		level, ok := impl.LevelOf(k)
		checkNumbers(t, "LevelOf", 0, k, level, ok, want)
		for _, n := range level {
			checkInts(t, n, 0, []wantInt{pair(impl.StepsTo(n)).is("StepsTo", k, true)})
		}
	}
	for k, want := range []int{1, 1, 1, 1, 1, 2, 2, 4, 4, 6, 6, 8, 10, 14, 18, 24} {
		if level, _ := impl.LevelOf(k); len(level) != want {
			t.Errorf("LevelOf %d: %v", k, level)
		}
	}
}

func TestNumbersFallBelowThemselves(t *testing.T) {
	falls, _ := stepsOfAll(20000)
	for n := 2; n < len(falls); n++ {
		steps, ok := impl.FallsBelow(n)
		checkFound(t, "FallsBelow", n, 1, steps, ok, falls[n])
	}
	some, none := 0, 0
	for _, n := range startsToTry() {
		if n == 1 {
			continue
		}
		want, m := 0, n
		for m >= n && m <= limit {
			m = stepBehind(m, 1)
			want++
		}
		if m > limit {
			want = -1
			none++
		} else {
			some++
		}
		steps, ok := impl.FallsBelow(n)
		checkFound(t, "FallsBelow", n, 1, steps, ok, want)
	}
	if some == 0 || none == 0 {
		t.Error("few numbers", some, none)
	}
	checkInts(t, 0, 0, []wantInt{
		pair(impl.FallsBelow(27)).is("FallsBelow of 27", 96, true),
		pair(impl.FallsBelow(703)).is("FallsBelow of 703", 132, true),
		pair(impl.FallsBelow(63728127)).is("FallsBelow of 63728127", 613, true), // no number needs more within the limits
	})
}

func TestRecords(t *testing.T) {
	_, steps := stepsOfAll(mostRecord)
	var want []int
	for most := 1; most <= mostRecord; most++ {
		if most == 1 || steps[most] > slices.Max(steps[1:most]) {
			want = append(want, most)
		}
		if most < 400 || most%41 == 0 || most-want[len(want)-1] < 2 || slices.Contains([]int{648, 702, 870, 1160, 1999, 2000}, most) {
			records, ok := impl.RecordsUpTo(most)
			checkNumbers(t, "RecordsUpTo", 0, most, records, ok, want)
		}
	}
	checkNumbers(t, "records", 0, mostRecord, want, true, []int{1, 2, 3, 6, 7, 9, 18, 25, 27, 54, 73, 97, 129, 171, 231, 313, 327, 649, 703, 871, 1161})
}

func TestCyclesWith(t *testing.T) {
	for _, d := range stepsAdded() {
		for _, most := range []int{1, 2, 3, 5, 7, 20, 55, 100, 199, 200} {
			checkCyclesWith(t, d, most, cyclesBySteps(d, most))
		}
	}
	for most := 1; most <= mostCycleStart; most++ {
		for _, d := range []int{1, 5, 13, 59, 99} {
			checkCyclesWith(t, d, most, cyclesBySteps(d, most))
		}
	}
	checkCyclesWith(t, 1, 200, [][]int{{1, 4, 2}})
	checkCyclesWith(t, 3, 200, [][]int{{3, 12, 6}})
	checkCyclesWith(t, 7, 200, [][]int{{5, 22, 11, 40, 20, 10}, {7, 28, 14}})
}

// Steps with d are those with 1 of the fractions n / d, so that the word of a cycle tells its least number.
func TestWordsOfCyclesTellTheirNumbers(t *testing.T) {
	told := 0
	for _, d := range stepsAdded() {
		cycles, _ := impl.CyclesWith(d, mostCycleStart)
		for _, cycle := range cycles {
			word := ""
			isBehindOdd := false
			for _, n := range cycle {
				if !isBehindOdd { // otherwise the short step goes on
					word += string("01"[n&1])
				}
				isBehindOdd = n&1 == 1
			}
			if len(word) > mostLetters {
				continue
			}
			checkCycleOfWord(t, word, big.NewRat(int64(cycle[0]), int64(d)))
			told++
		}
	}
	if told < 100 {
		t.Error("few cycles", told)
	}
}

func TestCyclesOfParityWords(t *testing.T) {
	for k := 1; k <= 12; k++ {
		for i, w := range wordsOfLength(k) {
			checkCycleOfWord(t, w, fractionBack(w))
			// Also longer ones, which begin in this way or in that.
			if k == 12 && i%7 == 0 {
				for length := range mostLetters - k + 1 {
					longer := w + w[:length]
					checkCycleOfWord(t, longer, fractionBack(longer))
				}
			}
		}
	}
}

func TestFractionsComeBackAsTold(t *testing.T) {
	for k := 1; k <= 10; k++ {
		for _, w := range wordsOfLength(k) {
			num, den, ok := impl.CycleOfWord(w)
			if !ok || den < 1 {
				t.Fatalf("CycleOfWord of %q: %d %d %v", w, num, den, ok)
			}
			x := big.NewRat(int64(num), int64(den))
			if back := takenAsTold(x, w); back.Cmp(x) != 0 {
				t.Fatalf("CycleOfWord of %q: %v comes back as %v", w, x, back)
			}
			// Twice the word is the same cycle.
			if 2*k <= mostLetters {
				checkCycleOfWord(t, w+w, x)
			}
			odd := strings.Count(w, "1")
			want := big.NewRat(int64(sumOfWord(w)), int64(powerOf(2, k)-powerOf(3, odd)))
			checkCycleOfWord(t, w, want)
		}
	}
}
