package tests

import (
	"math/big"
	"strings"
	"testing"

	"loop.example/g01151/impl"
)

func TestStepsOfOne(t *testing.T) {
	checkWayToOne(t, 1, []int{1})
	checkInts(t, 1, 0, []wantInt{
		pair(impl.StepOf(1)).is("StepOf", 4, true),
		pair(impl.ShortStep(1)).is("ShortStep", 2, true),
		pair(impl.StepsTo(1)).is("StepsTo", 0, true),
		pair(impl.GreatestOn(1)).is("GreatestOn", 1, true),
		pair(impl.FallsBelow(1)).is("FallsBelow", 0, false), // none is less
		pair(impl.OddCount(1, 20)).is("OddCount", 10, true),
		pair(impl.AfterShort(1, 20)).is("AfterShort", 1, true),
		pair(impl.AfterShort(1, 19)).is("AfterShort", 2, true),
	})
	word, ok := impl.ParityWord(1, 20)
	checkText(t, "ParityWord", 1, 20, word, ok, strings.Repeat("10", 10))
}

func TestStepsOfTwo(t *testing.T) {
	checkWayToOne(t, 2, []int{2, 1})
	checkInts(t, 2, 0, []wantInt{
		pair(impl.StepOf(2)).is("StepOf", 1, true),
		pair(impl.ShortStep(2)).is("ShortStep", 1, true),
		pair(impl.FallsBelow(2)).is("FallsBelow", 1, true),
	})
}

func TestEvenAndOddNumbers(t *testing.T) {
	for n := 2; n <= limit; n = n*3 + 2 {
		even, odd := n/2*2, n/2*2+1
		checkInts(t, even, 0, []wantInt{
			pair(impl.StepOf(even)).is("StepOf", even/2, true),
			pair(impl.ShortStep(even)).is("ShortStep", even/2, true),
			pair(impl.StepWith(even, 1)).is("StepWith 1", even/2, true),
			pair(impl.StepWith(even, 99)).is("StepWith 99", even/2, true),
			pair(impl.FallsBelow(even)).is("FallsBelow", 1, true),
		})
		if 3*odd+99 > limit {
			continue
		}
		checkInts(t, odd, 0, []wantInt{
			pair(impl.StepOf(odd)).is("StepOf", 3*odd+1, true),
			pair(impl.ShortStep(odd)).is("ShortStep", (3*odd+1)/2, true),
			pair(impl.StepWith(odd, 1)).is("StepWith 1", 3*odd+1, true),
			pair(impl.StepWith(odd, 99)).is("StepWith 99", 3*odd+99, true),
		})
	}
}

// A third of the limit leads to it exactly, and two thirds do so by a short step.
func TestStepsToTheLimit(t *testing.T) {
	const third, thirds = 333333333333, 666666666665
	checkWayToOne(t, third, wayOfSteps(third))
	checkWayToOne(t, third+2, nil)
	checkWayToOne(t, third+1, wayOfSteps(third+1))
	checkInts(t, third, 0, []wantInt{
		pair(impl.StepOf(third)).is("StepOf", limit, true),
		pair(impl.GreatestOn(third)).is("GreatestOn", limit, true),
		pair(impl.StepOf(third+1)).is("StepOf an even number", (third+1)/2, true),
		pair(impl.StepOf(third+2)).is("StepOf two more", 0, false),
		pair(impl.ShortStep(third+2)).is("ShortStep two more", (3*third+7)/2, true),
		pair(impl.ShortStep(thirds)).is("ShortStep", limit-2, true),
		pair(impl.ShortStep(thirds+2)).is("ShortStep two more", 0, false),
		pair(impl.AfterShort(thirds, 1)).is("AfterShort", limit-2, true),
		pair(impl.AfterShort(thirds+2, 1)).is("AfterShort two more", 0, false),
		pair(impl.OddCount(thirds+2, 1)).is("OddCount", 1, true), // asks for no step
		pair(impl.OddCount(thirds+2, 2)).is("OddCount", 0, false),
		pair(impl.FallsBelow(third+2)).is("FallsBelow two more", 0, false),
		pair(impl.FallsBelow(third+1)).is("FallsBelow an even number", 1, true),
		pair(impl.FallsBelow(third)).is("FallsBelow", 3, true), // its triple is halved twice
	})
	for _, d := range stepsAdded() {
		n := (limit - d) / 3
		if n%2 == 0 {
			n--
		}
		checkInts(t, n, d, []wantInt{
			pair(impl.StepWith(n, d)).is("StepWith", 3*n+d, true),
			pair(impl.StepWith(n+2, d)).is("StepWith two more", 0, false),
			pair(impl.StepWith(n+1, d)).is("StepWith an even number", (n+1)/2, true),
		})
	}
	// 10^12 is 1 more than a multiple of 3, and so met with d = 1, 7, 13, .. alone.
	checkInts(t, 333333333331, 7, []wantInt{pair(impl.StepWith(333333333331, 7)).is("StepWith", limit, true)})
}

// The least number that leads beyond the limit does so after many steps.
func TestNumbersThatLeadBeyondTheLimit(t *testing.T) {
	const least = 4637979
	if isWithinLimit(runBeyond(least)) || !isWithinLimit(runBeyond(least-2)) {
		t.Fatal("another number leads beyond the limit")
	}
	for _, n := range []int{least, 2 * least, 4 * least, 3*least + 1} {
		checkWayToOne(t, n, nil)
	}
	checkWayToOne(t, least-2, wayOfSteps(least-2))
	checkInts(t, least, 0, []wantInt{
		pair(impl.FallsBelow(least)).is("FallsBelow", 0, false),
		pair(impl.FallsBelow(2*least)).is("FallsBelow twice as much", 1, true),
	})
}

// runBeyond is the way to 1, also where that is beyond the limit.
func runBeyond(n int) []int {
	run := []int{n}
	for n != 1 {
		n = stepBehind(n, 1)
		run = append(run, n)
	}
	return run
}

// What is behind more short steps may come back below the limit, but what is beyond it is on the way.
func TestShortStepsOverTheLimit(t *testing.T) {
	back := 0
	for n := limit - 4000; n < limit; n++ {
		for k := 2; k <= mostLetters; k += 3 {
			walk := shortWalk(n, k)
			if !isWithinLimit(walk) && walk[k] <= limit {
				back++
			}
			checkShort(t, n, k)
		}
	}
	if back == 0 {
		t.Error("no number comes back")
	}
}

func TestStepsOfTheGreatestNumber(t *testing.T) {
	checkWayToOne(t, limit, wayOfSteps(limit))
	checkWayToOne(t, limit-1, nil)
	checkInts(t, limit, 0, []wantInt{
		pair(impl.StepOf(limit)).is("StepOf", limit/2, true),
		pair(impl.ShortStep(limit)).is("ShortStep", limit/2, true),
		pair(impl.StepWith(limit, 99)).is("StepWith", limit/2, true),
		pair(impl.GreatestOn(limit)).is("GreatestOn", limit, true),
		pair(impl.FallsBelow(limit)).is("FallsBelow", 1, true),
		pair(impl.AfterShort(limit, 12)).is("AfterShort", powerOf(5, 12), true),
		pair(impl.AfterShort(limit, 0)).is("AfterShort no steps", limit, true),
	})
	word, ok := impl.ParityWord(limit, 13)
	checkText(t, "ParityWord", limit, 13, word, ok, "0000000000001")
	before, ok := impl.BeforeStep(limit)
	checkNumbers(t, "BeforeStep", 0, limit, before, ok, []int{333333333333})
	before, ok = impl.BeforeStep(limit / 2)
	checkNumbers(t, "BeforeStep", 0, limit/2, before, ok, []int{limit})
	before, ok = impl.BeforeStep(limit/2 + 1)
	checkNumbers(t, "BeforeStep", 0, limit/2+1, before, ok, nil)
	before, ok = impl.BeforeStep(limit - 1)
	checkNumbers(t, "BeforeStep", 0, limit-1, before, ok, nil)
	checkNothingOfSteps(t, limit+1)
}

// The first number needs exactly MaxSteps steps and the others more of them, though none leads beyond the limit.
func TestNumbersThatNeedMaxSteps(t *testing.T) {
	const exact = 1412987847
	way := runBeyond(exact)
	if len(way)-1 != mostSteps || !isWithinLimit(way) {
		t.Fatal("not as many steps", len(way)-1)
	}
	checkWayToOne(t, exact, way)
	for _, n := range []int{2 * exact, 2*exact + 1, 4 * exact, 1674652263, 2610744987} {
		if longer := runBeyond(n); len(longer)-1 <= mostSteps || !isWithinLimit(longer) {
			t.Fatal("not more steps", n, len(longer)-1)
		}
		checkWayToOne(t, n, nil)
	}
	if len(runBeyond(2*exact))-1 != mostSteps+1 {
		t.Error("not one step more")
	}
	// Such numbers fall below themselves long before.
	checkInts(t, 0, 0, []wantInt{
		pair(impl.FallsBelow(2*exact)).is("FallsBelow", 1, true),
		pair(impl.FallsBelow(2*exact+1)).is("FallsBelow", stepsToFall(2*exact+1), true),
	})
}

func stepsToFall(n int) int {
	for steps, m := range runBeyond(n) {
		if m < n {
			return steps
		}
	}
	return 0
}

func TestCountsOfLettersAtTheLimits(t *testing.T) {
	for _, n := range []int{1, 2, 3, 7, 27, 1 << 20, 1<<20 - 1, limit} {
		word, ok := impl.ParityWord(n, 0)
		checkText(t, "ParityWord", n, 0, word, ok, "")
		checkInts(t, n, 0, []wantInt{
			pair(impl.OddCount(n, 0)).is("OddCount", 0, true),
			pair(impl.AfterShort(n, 0)).is("AfterShort", n, true),
		})
		checkShort(t, n, mostLetters)
		word, ok = impl.ParityWord(n, mostLetters)
		if !ok || len(word) != mostLetters {
			t.Errorf("ParityWord of %d: %q %v", n, word, ok)
		}
		for _, k := range []int{-1, mostLetters + 1} {
			checkNoWordOfSteps(t, n, k)
			after, ok := impl.AfterShort(n, k)
			checkNoInt(t, "AfterShort", after, ok)
		}
	}
}

func TestWordsAtTheLimits(t *testing.T) {
	checkInts(t, 0, 0, []wantInt{pair(impl.NumberOfWord("")).is("NumberOfWord of no letters", 1, true)})
	for k := 1; k <= mostLetters; k++ {
		zeros, ones := strings.Repeat("0", k), strings.Repeat("1", k)
		checkInts(t, k, 0, []wantInt{
			pair(impl.NumberOfWord(zeros)).is("NumberOfWord of 0 alone", 1<<k, true),
			pair(impl.NumberOfWord(ones)).is("NumberOfWord of 1 alone", 1<<k-1, true),
			pair(impl.AfterShort(1<<k, k)).is("AfterShort of a power of 2", 1, true),
			pair(impl.AfterShort(1<<k-1, k)).is("AfterShort of one less", powerOf(3, k)-1, true),
			pair(impl.OddCount(1<<k, k)).is("OddCount of a power of 2", 0, true),
			pair(impl.OddCount(1<<k-1, k)).is("OddCount of one less", k, true),
		})
		checkCycleOfWord(t, zeros, new(big.Rat))
		checkCycleOfWord(t, ones, big.NewRat(-1, 1))
	}
	for _, w := range []string{strings.Repeat("0", 21), strings.Repeat("1", 21), strings.Repeat("10", 10) + "1", strings.Repeat("0", 22), strings.Repeat("1", 64)} {
		checkNoNumberOfWord(t, w)
	}
	// All words of 20 letters that differ in one place from those of 0 alone and of 1 alone.
	for i := range mostLetters {
		for _, w := range []string{
			strings.Repeat("0", i) + "1" + strings.Repeat("0", mostLetters-1-i),
			strings.Repeat("1", i) + "0" + strings.Repeat("1", mostLetters-1-i),
		} {
			n, ok := impl.NumberOfWord(w)
			if !ok || n < 1 || n > 1<<mostLetters || lettersOfWalk(shortWalk(n, mostLetters-1)) != w {
				t.Errorf("NumberOfWord of %q: %d %v", w, n, ok)
			}
			checkCycleOfWord(t, w, fractionBack(w))
		}
	}
}

func TestLettersThatAreNoLetters(t *testing.T) {
	for _, letter := range []string{"2", "/", " ", "a", "o", "l", "-", "+", ".", "\x00", "\x01", "\n", "\xff", "\xb0", "é", "１", "０"} {
		for _, w := range []string{letter, letter + "1", "1" + letter, "10" + letter + "01", letter + letter, "0" + letter + "0", strings.Repeat("1", 19) + letter, letter + strings.Repeat("0", 19)} {
			checkNoNumberOfWord(t, w)
		}
	}
	num, den, ok := impl.CycleOfWord("")
	checkNoFraction(t, "", num, den, ok)
}

func TestNumbersBeforeOneAndTwo(t *testing.T) {
	for n, want := range map[int][]int{
		1:  {2},
		2:  {4},
		3:  {6},
		4:  {1, 8},
		7:  {14}, // 2 is even, and halved
		10: {3, 20},
		16: {5, 32},
		22: {7, 44},
	} {
		before, ok := impl.BeforeStep(n)
		checkNumbers(t, "BeforeStep", 0, n, before, ok, want)
	}
}

// 1 comes behind 4, but needs no step itself.
func TestLevelsAtTheLimits(t *testing.T) {
	for k, want := range [][]int{{1}, {2}, {4}, {8}, {16}, {5, 32}, {10, 64}, {3, 20, 21, 128}} {
		level, ok := impl.LevelOf(k)
		checkNumbers(t, "LevelOf", 0, k, level, ok, want)
	}
	level, ok := impl.LevelOf(mostLevel)
	checkNumbers(t, "LevelOf", 0, mostLevel, level, ok, []int{22, 23, 136, 138, 140, 141, 150, 151, 768, 832, 848, 852, 853, 904, 906, 908, 909, 5120, 5376, 5440, 5456, 5460, 5461, 32768})
	for _, k := range []int{-1, mostLevel + 1} {
		level, ok := impl.LevelOf(k)
		checkNoList(t, "LevelOf", level, ok)
	}
}

func TestMostOfRecordsAtTheLimits(t *testing.T) {
	records, ok := impl.RecordsUpTo(1)
	checkNumbers(t, "RecordsUpTo", 0, 1, records, ok, []int{1})
	records, ok = impl.RecordsUpTo(2)
	checkNumbers(t, "RecordsUpTo", 0, 2, records, ok, []int{1, 2})
	records, ok = impl.RecordsUpTo(1160)
	checkNumbers(t, "RecordsUpTo", 0, 1160, records, ok, []int{1, 2, 3, 6, 7, 9, 18, 25, 27, 54, 73, 97, 129, 171, 231, 313, 327, 649, 703, 871})
	records, ok = impl.RecordsUpTo(mostRecord)
	checkNumbers(t, "RecordsUpTo", 0, mostRecord, records, ok, []int{1, 2, 3, 6, 7, 9, 18, 25, 27, 54, 73, 97, 129, 171, 231, 313, 327, 649, 703, 871, 1161})
	for _, most := range []int{0, -1, mostRecord + 1} {
		records, ok := impl.RecordsUpTo(most)
		checkNoList(t, "RecordsUpTo", records, ok)
	}
}

func TestNumbersAddedAtTheLimits(t *testing.T) {
	checkInts(t, 0, 0, []wantInt{
		pair(impl.StepWith(5, 1)).is("StepWith 1", 16, true),
		pair(impl.StepWith(5, 99)).is("StepWith 99", 114, true),
	})
	checkCyclesWith(t, 99, 1, cyclesBySteps(99, 1))
	for d := -3; d <= mostStepAdded+5; d++ {
		if d%2 != 0 && d >= 1 && d <= mostStepAdded {
			continue
		}
		for _, n := range []int{1, 2, 3, 4, 200, limit} {
			checkNoStepWith(t, n, d)
		}
		for _, most := range []int{1, 2, mostCycleStart} {
			checkNoCyclesWith(t, d, most)
		}
	}
}

// With 5, numbers up to 200 lead to six cycles, and each is told once, from whatever number it is met first.
func TestCyclesThatAreMetAgain(t *testing.T) {
	first := [][]int{{1, 8, 4, 2}}
	checkCyclesWith(t, 5, 1, first)
	checkCyclesWith(t, 5, 2, first) // a number of the same cycle
	third := append(first, []int{19, 62, 31, 98, 49, 152, 76, 38})
	checkCyclesWith(t, 5, 3, third) // 3 leads to it over 14, 7, 26, 13, 44, 22, 11
	checkCyclesWith(t, 5, 4, third)
	checkCyclesWith(t, 5, 5, [][]int{{1, 8, 4, 2}, {5, 20, 10}, {19, 62, 31, 98, 49, 152, 76, 38}})
	checkCyclesWith(t, 5, 19, [][]int{{1, 8, 4, 2}, {5, 20, 10}, {19, 62, 31, 98, 49, 152, 76, 38}})
	// The first number of a cycle need not be the one by which it is met.
	checkCyclesWith(t, 7, 1, [][]int{{5, 22, 11, 40, 20, 10}})
	checkCyclesWith(t, 7, 6, [][]int{{5, 22, 11, 40, 20, 10}})
	checkCyclesWith(t, 7, 7, [][]int{{5, 22, 11, 40, 20, 10}, {7, 28, 14}})
	// 171 leads to a cycle all of whose numbers are greater than 200, and is the only number up to 200 that does.
	cycles, ok := impl.CyclesWith(5, mostCycleStart)
	if !ok || len(cycles) != 6 || cycles[4][0] != 187 || cycles[5][0] != 347 || len(cycles[4]) != 44 || len(cycles[5]) != 44 {
		t.Fatal("CyclesWith", cycles, ok)
	}
	checkCyclesWith(t, 5, 170, cycles[:5])
	checkCyclesWith(t, 5, 171, cycles)
	beyond := 0
	for _, d := range stepsAdded() {
		cycles, _ := impl.CyclesWith(d, 10)
		for _, cycle := range cycles {
			if cycle[0] > 10 {
				beyond++
			}
		}
	}
	if beyond == 0 {
		t.Error("no cycle is beyond the numbers that lead to it")
	}
}

func TestMostOfCyclesAtTheLimits(t *testing.T) {
	for _, d := range stepsAdded() {
		checkCyclesWith(t, d, mostCycleStart, cyclesBySteps(d, mostCycleStart))
		checkCyclesWith(t, d, 1, cyclesBySteps(d, 1))
		for _, most := range []int{0, -1, mostCycleStart + 1} {
			checkNoCyclesWith(t, d, most)
		}
	}
}

func TestFractionsOfEachKind(t *testing.T) {
	for w, want := range map[string]*big.Rat{
		"0":        new(big.Rat),
		"1":        big.NewRat(-1, 1),
		"10":       big.NewRat(1, 1),
		"01":       big.NewRat(2, 1),
		"100":      big.NewRat(1, 5),
		"010":      big.NewRat(2, 5),
		"001":      big.NewRat(4, 5),
		"110":      big.NewRat(-5, 1), // -5, -7 and -10
		"101":      big.NewRat(-7, 1),
		"011":      big.NewRat(-10, 1),
		"1010":     big.NewRat(1, 1),
		"1100":     big.NewRat(5, 7),
		"1110":     big.NewRat(-19, 11),
		"101000":   big.NewRat(7, 55),
		"111000":   big.NewRat(19, 37),
		"10000":    big.NewRat(1, 29),
		"11110111": big.NewRat(-2363, 1931), // -(729 + 486 + 324 + 216 + 288 + 192 + 128) / (2187 - 256)
	} {
		if back := fractionBack(w); back.Cmp(want) != 0 {
			t.Errorf("%q: another fraction, %v, not %v", w, back, want)
		}
		checkCycleOfWord(t, w, want)
	}
	// The cycle of -17 has eleven short steps.
	checkCycleOfWord(t, "11110111000", big.NewRat(-17, 1))
	negative, whole, lower := 0, 0, 0
	for _, w := range wordsOfLength(11) {
		num, den, ok := impl.CycleOfWord(w)
		divisor := new(big.Int).GCD(nil, nil, big.NewInt(int64(max(num, -num))), big.NewInt(int64(den)))
		if !ok || den < 1 || divisor.Int64() != 1 {
			t.Fatalf("CycleOfWord of %q: %d %d %v", w, num, den, ok)
		}
		if num < 0 {
			negative++
		}
		if den == 1 {
			whole++
		}
		if odd := strings.Count(w, "1"); den != max(1<<11-powerOf(3, odd), powerOf(3, odd)-1<<11) {
			lower++
		}
	}
	if negative == 0 || whole == 0 || lower == 0 {
		t.Error("few fractions", negative, whole, lower)
	}
}
