package tests

import (
	"slices"
	"testing"

	"loop.example/g01151/impl"
)

func TestOneZero(t *testing.T) {
	zero := []int{0}
	for _, base := range bases {
		sum, ok := impl.AddReversed(zero, base)
		checkWord(t, "AddReversed", zero, base, sum, ok, zero)
		carries, ok := impl.CarriesOf(zero, base)
		checkWord(t, "CarriesOf", zero, base, carries, ok, zero)
		none, ok := impl.HasNoCarry(zero, base)
		checkIs(t, "HasNoCarry", zero, base, none, ok, true)
		is, ok := impl.IsSymmetric(zero, base)
		checkIs(t, "IsSymmetric", zero, base, is, ok, true)
		difference, ok := impl.SubtractReversed(zero, base)
		checkWord(t, "SubtractReversed", zero, base, difference, ok, zero)
		for _, most := range []int{0, 1, mostAdded} {
			checkTimes(t, zero, base, most, 0)
			run, ok := impl.AddedRun(zero, base, most)
			checkWords(t, "AddedRun", 1, base, run, ok, [][]int{zero})
		}
		checkSources(t, zero, base, 0, nil)
	}
}

func TestOneDigit(t *testing.T) {
	for _, base := range bases {
		for d := 1; d < base; d++ {
			digit := []int{d}
			carry := 2 * d / base
			sum, ok := impl.AddReversed(digit, base)
			checkWord(t, "AddReversed", digit, base, sum, ok, digitsOf(2*d, base))
			carries, ok := impl.CarriesOf(digit, base)
			checkWord(t, "CarriesOf", digit, base, carries, ok, []int{carry})
			none, ok := impl.HasNoCarry(digit, base)
			checkIs(t, "HasNoCarry", digit, base, none, ok, carry == 0)
			difference, ok := impl.SubtractReversed(digit, base)
			checkWord(t, "SubtractReversed", digit, base, difference, ok, []int{0})
			checkTimes(t, digit, base, 0, 0)
		}
	}
}

func TestDigitsThatAreSymmetricAlready(t *testing.T) {
	for _, base := range bases {
		some := 0
		for _, digits := range longDigitsToTry(base) {
			if !symmetricList(digits) {
				continue
			}
			some++
			for _, most := range []int{0, 1, mostAdded} {
				checkTimes(t, digits, base, most, 0)
				run, ok := impl.AddedRun(digits, base, most)
				checkWords(t, "AddedRun", len(digits), base, run, ok, [][]int{digits})
			}
			difference, ok := impl.SubtractReversed(digits, base)
			checkWord(t, "SubtractReversed", digits, base, difference, ok, []int{0})
		}
		if some < mostLong {
			t.Fatal("few symmetric lists", base, some)
		}
	}
	// What is behind symmetric digits may not be symmetric: no run goes on to it.
	sum, ok := impl.AddReversed([]int{9, 9}, 10)
	checkWord(t, "AddReversed", []int{9, 9}, 10, sum, ok, []int{1, 9, 8})
}

func TestSumsThatHaveADigitMore(t *testing.T) {
	for _, base := range bases {
		for length := 1; length < mostLong; length++ {
			digits := slices.Repeat([]int{base - 1}, length)
			want := slices.Concat([]int{1}, digits[1:], []int{base - 2})
			sum, ok := impl.AddReversed(digits, base)
			checkWord(t, "AddReversed", digits, base, sum, ok, want)
			carries, ok := impl.CarriesOf(digits, base)
			checkWord(t, "CarriesOf", digits, base, carries, ok, slices.Repeat([]int{1}, length))
			none, ok := impl.HasNoCarry(digits, base)
			checkIs(t, "HasNoCarry", digits, base, none, ok, false)
			if length == 1 {
				continue
			}
			// A carry within the sum does not make it longer.
			inner := append(make([]int, length), 1)
			inner[0], inner[length/2], inner[length-length/2] = 1, base-1, base-1
			sum, ok = impl.AddReversed(inner, base)
			if want := addedText(lettersOf(inner), base); base > 3 && (!ok || lettersOf(sum) != want || len(sum) != len(inner)) {
				t.Fatalf("AddReversed of %v in base %d: %v %v, want %s", inner, base, sum, ok, want)
			}
		}
	}
}

func TestSumsAtTheLimit(t *testing.T) {
	for _, base := range bases {
		// One digit less than MaxLong, and one more in the sum.
		digits := slices.Repeat([]int{base - 1}, mostLong-1)
		sum, ok := impl.AddReversed(digits, base)
		checkWord(t, "AddReversed", digits, base, sum, ok, slices.Concat([]int{1}, digits[1:], []int{base - 2}))
		// MaxLong digits, and no more in the sum.
		half := slices.Repeat([]int{1, 0}, mostLong/2)
		sum, ok = impl.AddReversed(half, base)
		checkWord(t, "AddReversed", half, base, sum, ok, slices.Repeat([]int{1}, mostLong))
		checkTimes(t, half, base, 1, 1)
		run, ok := impl.AddedRun(half, base, 1)
		checkWords(t, "AddedRun", mostLong, base, run, ok, [][]int{half, slices.Repeat([]int{1}, mostLong)})
		// One digit more than MaxLong in the sum.
		long := append(slices.Repeat([]int{base - 1}, mostLong-1), 1)
		sum, ok = impl.AddReversed(long, base)
		checkNoList(t, "AddReversed to more than MaxLong digits", sum, ok)
		carries, ok := impl.CarriesOf(long, base)
		checkWord(t, "CarriesOf", long, base, carries, ok, slices.Repeat([]int{1}, mostLong))
		none, ok := impl.HasNoCarry(long, base)
		checkIs(t, "HasNoCarry", long, base, none, ok, false)
		if base == 2 {
			continue // these digits are all 1, and symmetric
		}
		for _, most := range []int{0, 1, mostAdded} {
			checkTimes(t, long, base, most, -1)
			run, ok := impl.AddedRun(long, base, most)
			checkWords(t, "AddedRun", mostLong, base, run, ok, [][]int{long})
		}
	}
}

func TestMostTimesAtTheLimits(t *testing.T) {
	for _, base := range bases {
		one, sum := []int{1, 0}, []int{1, 1}
		checkTimes(t, one, base, 0, -1)
		checkTimes(t, one, base, 1, 1)
		checkTimes(t, one, base, mostAdded, 1)
		run, ok := impl.AddedRun(one, base, 0)
		checkWords(t, "AddedRun", 2, base, run, ok, [][]int{one})
		for _, most := range []int{1, mostAdded} {
			run, ok = impl.AddedRun(one, base, most)
			checkWords(t, "AddedRun", 2, base, run, ok, [][]int{one, sum})
		}
		numbers, symmetric := (base-1)*base, base-1
		spread, ok := impl.StepsSpread(2, base, 0)
		checkNumbers(t, "StepsSpread", base, 2, spread, ok, []int{symmetric, numbers - symmetric})
		checkSlowest(t, 2, base, 0, base+1, 0)
		spread, ok = impl.StepsSpread(2, base, mostAdded)
		if !ok || len(spread) != mostAdded+2 || spread[0] != symmetric {
			t.Error("StepsSpread", base, spread, ok)
		}
		for _, most := range []int{-1, mostAdded + 1} {
			checkNoMost(t, one, base, most)
			checkNoMost(t, sum, base, most)
			checkNoWidthOf(t, 2, base, most)
		}
	}
}

func TestDigitsThatNeverGetThere(t *testing.T) {
	for _, text := range []string{"196", "295", "691", "887", "978", "879", "1675", "7436"} {
		digits := digitsOfLetters(text)
		checkTimes(t, digits, 10, mostAdded, -1)
		run, ok := impl.AddedRun(digits, 10, mostAdded)
		last := run[len(run)-1]
		sum, sumOK := impl.AddReversed(last, 10)
		if !ok || len(last) != mostLong || sumOK || len(run) > mostAdded {
			t.Errorf("AddedRun of %s: %d lists, up to %v and %v", text, len(run), last, sum)
		}
		for _, list := range run {
			is, ok := impl.IsSymmetric(list, 10)
			checkIs(t, "IsSymmetric", list, 10, is, ok, false)
		}
	}
	run, ok := impl.AddedRun([]int{1, 9, 6}, 10, 3)
	checkWords(t, "AddedRun", 3, 10, run, ok, [][]int{{1, 9, 6}, {8, 8, 7}, {1, 6, 7, 5}, {7, 4, 3, 6}})
	checkTimes(t, []int{1, 0, 1, 1, 0}, 2, mostAdded, -1)
	// This number needs 96 times, but comes to 48 digits, which are more than MaxLong.
	checkTimes(t, digitsOfLetters("9008299"), 10, mostAdded, -1)
}

func TestDigitsWithoutSources(t *testing.T) {
	for _, base := range bases {
		checkSources(t, []int{1}, base, 0, nil)
	}
	// The outer digits have to be 1 together, and then those between have to make 1, or 91.
	checkSources(t, []int{1, 0, 1, 1}, 10, 0, nil)
	for d := range 10 {
		if d%2 == 1 {
			checkSources(t, []int{d}, 10, 0, nil)
		} else if d > 0 {
			checkSources(t, []int{d}, 10, 1, []int{d / 2})
		}
	}
	for _, text := range []string{"12", "13", "21", "23", "100", "111", "999999999998"} {
		count, first := sourcesByCarries(digitsOfLetters(text), 10)
		checkSources(t, digitsOfLetters(text), 10, count, first)
	}
	checkSources(t, []int{1, 3}, 10, 0, nil)
	checkSources(t, []int{2, 1}, 10, 0, nil)
}

func TestFirstSources(t *testing.T) {
	checkSources(t, []int{1, 2, 1}, 10, 9, []int{2, 9})
	// 9 and 9 make 18; 10 and 1 make 11; 99 and 99 make 198.
	checkSources(t, []int{1, 8}, 10, 1, []int{9})
	checkSources(t, []int{1, 0}, 10, 1, []int{5})
	checkSources(t, []int{1, 1}, 10, 1, []int{1, 0})
	checkSources(t, []int{1, 1, 0}, 10, 9, []int{1, 9})
	checkSources(t, []int{1, 9, 8}, 10, 1, []int{9, 9})
	checkSources(t, []int{1, 0, 1}, 10, 1, []int{1, 0, 0})
	checkSources(t, []int{1, 0}, 2, 1, []int{1})
	checkSources(t, []int{1, 1}, 2, 1, []int{1, 0})
	checkSources(t, []int{1, 14}, 16, 1, []int{15})
}

func TestSourcesAtTheLimit(t *testing.T) {
	for _, base := range bases {
		// Without carries, the outer digits are 1 and 0, and each of five pairs between is 1 and 0 or 0 and 1.
		ones := slices.Repeat([]int{1}, mostSourceDigits)
		want, wantFirst := sourcesByCarries(ones, base)
		checkSources(t, ones, base, want, wantFirst)
		if want < 32 {
			t.Fatal("sources of ones", base, want)
		}
		greatest := slices.Repeat([]int{base - 1}, mostSourceDigits)
		want, wantFirst = sourcesByCarries(greatest, base)
		checkSources(t, greatest, base, want, wantFirst)
		if want < powerOf(base, 5)*(base-1) {
			t.Fatal("sources of the greatest digits", base, want)
		}
		for _, length := range []int{mostSourceDigits + 1, mostSourceDigits + 2, mostLong} {
			checkNoSources(t, slices.Repeat([]int{1}, length), base)
			checkNoSources(t, append([]int{1}, make([]int, length-1)...), base)
		}
	}
	checkSources(t, slices.Repeat([]int{15}, 12), 16, 15*powerOf(16, 5), []int{1, 0, 0, 0, 0, 0, 15, 15, 15, 15, 15, 14})
}

func TestWidthsOfNumbersAtTheLimits(t *testing.T) {
	for _, base := range bases {
		// The numbers of one digit are symmetric already; 0 is none of them.
		spread, ok := impl.StepsSpread(1, base, 2)
		checkNumbers(t, "StepsSpread", base, 1, spread, ok, []int{base - 1, 0, 0, 0})
		checkSlowest(t, 1, base, mostAdded, 1, 0)
		for _, most := range []int{0, 2, mostAdded} {
			checkNoWidthOf(t, 0, base, most)
			checkNoWidthOf(t, mostSpreadWidth+1, base, most)
		}
	}
	spread, ok := impl.StepsSpread(14, 2, 1)
	if !ok || len(spread) != 3 || spread[0] != 64 || spread[0]+spread[1]+spread[2] != 8192 {
		t.Error("StepsSpread of the greatest width", spread, ok)
	}
	for _, width := range []int{1, 2, 3} {
		_, spreadOK := impl.StepsSpread(width, 16, 1)
		_, _, slowestOK := impl.SlowestNumber(width, 16, 1)
		if !spreadOK || !slowestOK {
			t.Error("a call fails", width, spreadOK, slowestOK)
		}
		checkNoWidthOf(t, width, 17, 1)
		checkNoWidthOf(t, width, 1, 1)
	}
}

// 19008 numbers of four digits in the base 12 are few enough; 26364 in the base 13 are not.
func TestWidthsOfManyNumbers(t *testing.T) {
	spread, ok := impl.StepsSpread(4, 12, 0)
	checkNumbers(t, "StepsSpread", 12, 4, spread, ok, []int{132, 19008 - 132})
	checkSlowest(t, 4, 12, 0, 12*12*12+1, 0)
	checkNoWidthOf(t, 4, 13, 0)
	most := map[int]int{2: 14, 3: 9, 4: 7, 5: 6, 6: 5, 7: 5, 8: 4, 9: 4, 10: 4, 11: 4, 12: 4, 13: 3, 14: 3, 15: 3, 16: 3}
	for _, base := range bases {
		if _, ok := impl.StepsSpread(most[base], base, 1); !ok {
			t.Error("StepsSpread fails", most[base], base)
		}
		if _, _, ok := impl.SlowestNumber(most[base], base, 1); !ok {
			t.Error("SlowestNumber fails", most[base], base)
		}
		for width := most[base] + 1; width <= mostSpreadWidth+2; width++ {
			checkNoWidthOf(t, width, base, 1)
		}
	}
}

func TestNeverWordsAtTheLimits(t *testing.T) {
	word, ok := impl.NeverWord(2)
	checkWord(t, "NeverWord", []int{2}, 2, word, ok, []int{1, 0, 1, 1, 0, 1, 0, 0})
	word, ok = impl.NeverWord(17)
	want := slices.Concat([]int{1, 0}, slices.Repeat([]int{1}, 17), []int{0, 1}, make([]int, 17))
	checkWord(t, "NeverWord", []int{17}, 2, word, ok, want)
	for _, k := range []int{1, 18} {
		word, ok := impl.NeverWord(k)
		checkNoList(t, "NeverWord", word, ok)
	}
}

func TestDifferencesThatHaveFewerDigits(t *testing.T) {
	for _, c := range []struct {
		digits, want []int
		base         int
	}{
		{[]int{1, 0}, []int{9}, 10},
		{[]int{1, 0}, []int{1}, 2},
		{[]int{1, 0}, []int{15}, 16},
		{[]int{1, 0, 0}, []int{9, 9}, 10},
		{[]int{1, 0, 2}, []int{9, 9}, 10},
		{[]int{1, 2, 3, 1}, []int{9, 0}, 10},
		{[]int{1, 3, 2, 1}, []int{9, 0}, 10},
		{[]int{7, 7}, []int{0}, 10},
		{[]int{1, 2, 2, 1}, []int{0}, 10},
		{[]int{1, 1, 0, 1}, []int{1, 0}, 2},
	} {
		difference, ok := impl.SubtractReversed(c.digits, c.base)
		checkWord(t, "SubtractReversed", c.digits, c.base, difference, ok, c.want)
	}
	for _, base := range bases {
		digits := append([]int{1}, make([]int, mostLong-1)...)
		difference, ok := impl.SubtractReversed(digits, base)
		checkWord(t, "SubtractReversed", digits, base, difference, ok, slices.Repeat([]int{base - 1}, mostLong-1))
		digits = slices.Repeat([]int{base - 1}, mostLong)
		difference, ok = impl.SubtractReversed(digits, base)
		checkWord(t, "SubtractReversed", digits, base, difference, ok, []int{0})
	}
}
