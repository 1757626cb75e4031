package tests

import (
	"slices"
	"testing"

	"loop.example/g01151/impl"
)

// Promise 5: numbers are added backwards to symmetric ones, with carries and sources told.

func checkSlowest(t *testing.T, width int, base int, most int, number int, times int) {
	t.Helper()
	gotNumber, gotTimes, ok := impl.SlowestNumber(width, base, most)
	if gotNumber != number || gotTimes != times || !ok {
		t.Fatalf("SlowestNumber of width %d in base %d for %d: %d %d %v, want %d %d", width, base, most, gotNumber, gotTimes, ok, number, times)
	}
}

// checkTimes takes -1 for digits that do not come to symmetric ones.
func checkTimes(t *testing.T, digits []int, base int, most int, want int) {
	t.Helper()
	got, ok := impl.StepsToSymmetric(digits, base, most)
	if ok != (want >= 0) || got != max(want, 0) {
		t.Fatalf("StepsToSymmetric of %v in base %d for %d: %d %v, want %d", digits, base, most, got, ok, want)
	}
}

func checkIs(t *testing.T, name string, digits []int, base int, got bool, ok bool, want bool) {
	t.Helper()
	if got != want || !ok {
		t.Fatalf("%s of %v in base %d: %v %v, want %v", name, digits, base, got, ok, want)
	}
}

// checkSources takes no first digits where there are none.
func checkSources(t *testing.T, digits []int, base int, want int, wantFirst []int) {
	t.Helper()
	if count, ok := impl.CountSources(digits, base); count != want || !ok {
		t.Fatalf("CountSources of %v in base %d: %d %v, want %d", digits, base, count, ok, want)
	}
	first, ok := impl.FirstSource(digits, base)
	if ok != (want > 0) || !slices.Equal(first, wantFirst) {
		t.Fatalf("FirstSource of %v in base %d: %v %v, want %v", digits, base, first, ok, wantFirst)
	}
}

func TestLimitsOfLongNumbersAreThoseOfTheDocument(t *testing.T) {
	if impl.MaxLong != mostLong || impl.MaxAdded != mostAdded {
		t.Error(impl.MaxLong, impl.MaxAdded)
	}
}

func TestExampleOfAdding(t *testing.T) {
	sum, ok := impl.AddReversed([]int{5, 6}, 10)
	checkWord(t, "AddReversed", []int{5, 6}, 10, sum, ok, []int{1, 2, 1})
	checkTimes(t, []int{5, 6}, 10, mostAdded, 1)
	checkTimes(t, []int{8, 9}, 10, mostAdded, 24)
	checkTimes(t, []int{1, 9, 6}, 10, mostAdded, -1)
	word, ok := impl.NeverWord(2)
	checkWord(t, "NeverWord", []int{2}, 2, word, ok, []int{1, 0, 1, 1, 0, 1, 0, 0})
	run, ok := impl.AddedRun(word, 2, 4)
	if !ok || len(run) != 5 || !slices.Equal(run[4], []int{1, 0, 1, 1, 1, 0, 1, 0, 0, 0}) {
		t.Error("AddedRun of NeverWord", run, ok)
	}
}

func TestSumsOfReversed(t *testing.T) {
	for _, base := range bases {
		for _, digits := range longDigitsToTry(base) {
			want := addedText(lettersOf(digits), base)
			sum, ok := impl.AddReversed(digits, base)
			if len(want) > mostLong {
				checkNoList(t, "AddReversed to more than MaxLong digits", sum, ok)
				continue
			}
			checkWord(t, "AddReversed", digits, base, sum, ok, digitsOfLetters(want))
		}
	}
}

func TestCarries(t *testing.T) {
	for _, base := range bases {
		for _, digits := range longDigitsToTry(base) {
			want := carriesOfText(lettersOf(digits), base)
			carries, ok := impl.CarriesOf(digits, base)
			checkWord(t, "CarriesOf", digits, base, carries, ok, want)
			none, ok := impl.HasNoCarry(digits, base)
			checkIs(t, "HasNoCarry", digits, base, none, ok, !slices.Contains(want, 1))
		}
	}
	carries, ok := impl.CarriesOf([]int{5, 6, 3}, 10)
	checkWord(t, "CarriesOf", []int{5, 6, 3}, 10, carries, ok, []int{0, 1, 0})
	carries, ok = impl.CarriesOf([]int{1, 9}, 10)
	checkWord(t, "CarriesOf", []int{1, 9}, 10, carries, ok, []int{1, 1})
	carries, ok = impl.CarriesOf([]int{1, 9, 0, 8}, 10)
	checkWord(t, "CarriesOf", []int{1, 9, 0, 8}, 10, carries, ok, []int{0, 0, 0, 0})
	carries, ok = impl.CarriesOf([]int{1, 9, 9, 8}, 10)
	checkWord(t, "CarriesOf", []int{1, 9, 9, 8}, 10, carries, ok, []int{0, 1, 1, 1})
}

// The carries tell what each place of the sum has left: with all of them put back, the digits of the sum are those of the pairs.
func TestCarriesTellSums(t *testing.T) {
	for _, base := range bases {
		for _, digits := range longDigitsToTry(base) {
			sum, ok := impl.AddReversed(digits, base)
			if !ok {
				continue
			}
			carries, _ := impl.CarriesOf(digits, base)
			if longer := len(sum) - len(digits); longer != carries[len(carries)-1] {
				t.Fatalf("%v in base %d: %v and carries %v", digits, base, sum, carries)
			}
			slices.Reverse(sum)
			before := 0
			for i, carry := range carries {
				if sum[i]+base*carry != digits[i]+digits[len(digits)-1-i]+before {
					t.Fatalf("%v in base %d: %v, the last one first, and carries %v", digits, base, sum, carries)
				}
				before = carry
			}
		}
	}
}

func TestSumsWithoutCarriesAreSymmetric(t *testing.T) {
	for _, base := range bases {
		without := 0
		for _, digits := range longDigitsToTry(base) {
			none, _ := impl.HasNoCarry(digits, base)
			if !none {
				continue
			}
			without++
			sum, ok := impl.AddReversed(digits, base)
			is, isOK := impl.IsSymmetric(sum, base)
			if !ok || !isOK || !is || len(sum) != len(digits) {
				t.Fatalf("%v in base %d has no carry, but leads to %v %v", digits, base, sum, ok)
			}
		}
		if without == 0 {
			t.Fatal("no list without carries", base)
		}
	}
}

func TestSymmetricDigits(t *testing.T) {
	for _, base := range bases {
		for _, digits := range longDigitsToTry(base) {
			is, ok := impl.IsSymmetric(digits, base)
			checkIs(t, "IsSymmetric", digits, base, is, ok, symmetricList(digits))
		}
	}
	is, ok := impl.IsSymmetric([]int{1, 2, 3, 2, 1}, 10)
	checkIs(t, "IsSymmetric", []int{1, 2, 3, 2, 1}, 10, is, ok, true)
	is, ok = impl.IsSymmetric([]int{1, 2, 3, 3, 1}, 10)
	checkIs(t, "IsSymmetric", []int{1, 2, 3, 3, 1}, 10, is, ok, false)
	is, ok = impl.IsSymmetric([]int{1, 2, 1, 2}, 10)
	checkIs(t, "IsSymmetric", []int{1, 2, 1, 2}, 10, is, ok, false)
}

func TestRunsOfAdding(t *testing.T) {
	for _, base := range bases {
		for i, digits := range longDigitsToTry(base) {
			if i%3 != base%3 {
				continue
			}
			for _, most := range []int{0, 1, 2, 7, mostAdded} {
				texts, reached := runOfText(lettersOf(digits), base, most)
				var want [][]int
				for _, text := range texts {
					want = append(want, digitsOfLetters(text))
				}
				run, ok := impl.AddedRun(digits, base, most)
				checkWords(t, "AddedRun", len(digits), base, run, ok, want)
				if !reached {
					checkTimes(t, digits, base, most, -1)
				} else {
					checkTimes(t, digits, base, most, len(texts)-1)
				}
			}
		}
	}
	run, ok := impl.AddedRun([]int{8, 7}, 10, mostAdded)
	checkWords(t, "AddedRun of 87", 2, 10, run, ok, [][]int{{8, 7}, {1, 6, 5}, {7, 2, 6}, {1, 3, 5, 3}, {4, 8, 8, 4}})
}

// The known numbers that take long in the base 10.
func TestKnownRunsOfAdding(t *testing.T) {
	for _, c := range []struct {
		from, to string
		times    int
	}{
		{"59", "1111", 3},
		{"87", "4884", 4},
		{"89", "8813200023188", 24},
		{"98", "8813200023188", 24},
		{"187", "8813200023188", 23},
		{"1297", "8813200023188", 21},
		{"10911", "4668731596684224866951378664", 55},
		{"150296", "682049569465550121055564965940286", 64},
	} {
		digits := digitsOfLetters(c.from)
		checkTimes(t, digits, 10, mostAdded, c.times)
		checkTimes(t, digits, 10, c.times, c.times)
		checkTimes(t, digits, 10, c.times-1, -1)
		run, ok := impl.AddedRun(digits, 10, mostAdded)
		if !ok || len(run) != c.times+1 || lettersOf(run[c.times]) != c.to {
			t.Errorf("AddedRun of %s: %v %v", c.from, run, ok)
		}
	}
}

func TestSourcesOfAllSmallSums(t *testing.T) {
	for _, base := range bases {
		width := 1
		for powerOf(base, width+1) <= 5000 {
			width++
		}
		counts, least := sumsOfAll(width, base)
		for n := range powerOf(base, width) {
			text := textOf(n, base)
			var first []int
			if counts[text] > 0 {
				first = digitsOfLetters(least[text])
			}
			checkSources(t, digitsOfLetters(text), base, counts[text], first)
		}
	}
}

func TestSourcesOfLongSums(t *testing.T) {
	for _, base := range bases {
		some := 0
		for i, digits := range longDigitsToTry(base) {
			if len(digits) > mostSourceDigits || i%2 == 0 {
				continue
			}
			want, wantFirst := sourcesByCarries(digits, base)
			checkSources(t, digits, base, want, wantFirst)
			sum, ok := impl.AddReversed(digits, base)
			if !ok || len(sum) > mostSourceDigits || len(digits) == 1 && digits[0] == 0 {
				continue
			}
			want, wantFirst = sourcesByCarries(sum, base)
			checkSources(t, sum, base, want, wantFirst)
			if want == 0 || len(wantFirst) == len(digits) && slices.Compare(wantFirst, digits) > 0 {
				t.Fatalf("%v in base %d is a source of %v, but the first of %d is %v", digits, base, sum, want, wantFirst)
			}
			some++
		}
		if some == 0 {
			t.Fatal("no sums", base)
		}
	}
}

func TestSourcesLeadToTheirSums(t *testing.T) {
	for _, base := range bases {
		for _, digits := range longDigitsToTry(base) {
			first, ok := impl.FirstSource(digits, base)
			if !ok {
				continue
			}
			sum, ok := impl.AddReversed(first, base)
			checkWord(t, "AddReversed", first, base, sum, ok, digits)
		}
	}
}

func TestSpreadOfTimes(t *testing.T) {
	spreadShapes(func(width int, base int, known timesOf) {
		for _, most := range []int{0, 1, 9, mostAdded} {
			times := timesOfAll(width, base, most, known)
			want := make([]int, most+2)
			for _, k := range times {
				if k < 0 {
					k = most + 1
				}
				want[k]++
			}
			spread, ok := impl.StepsSpread(width, base, most)
			checkNumbers(t, "StepsSpread", base, width, spread, ok, want)
			longest := slices.Max(times)
			slowest := powerOf(base, width-1) + slices.Index(times, longest)
			checkSlowest(t, width, base, most, slowest, longest)
		}
	})
}

// The known counts and numbers of the base 10.
func TestKnownSpreads(t *testing.T) {
	// Of 90 numbers, those with the digit sums 14, 15, 16 and 17 need 3, 4, 6 and 24 times.
	spread, ok := impl.StepsSpread(2, 10, 6)
	checkNumbers(t, "StepsSpread", 10, 2, spread, ok, []int{9, 49, 20, 4, 4, 0, 2, 2})
	for width, never := range map[int]int{1: 0, 2: 0, 3: 13, 4: 233} {
		spread, ok := impl.StepsSpread(width, 10, mostAdded)
		if !ok || len(spread) != mostAdded+2 || spread[mostAdded+1] != never {
			t.Errorf("StepsSpread of width %d: %v %v", width, spread, ok)
		}
	}
	checkSlowest(t, 2, 10, mostAdded, 89, 24)
	checkSlowest(t, 3, 10, mostAdded, 187, 23)
	checkSlowest(t, 4, 10, mostAdded, 1297, 21)
	checkSlowest(t, 2, 10, 23, 79, 6)
}

// Each spread counts all numbers of the width, symmetric ones first, and the slowest number needs the last times that are needed at all.
func TestSpreadsAgreeWithRuns(t *testing.T) {
	spreadShapes(func(width int, base int, known timesOf) {
		for _, most := range []int{0, 3, 30} {
			spread, ok := impl.StepsSpread(width, base, most)
			total := 0
			for _, count := range spread {
				total += count
			}
			half := powerOf(base, (width+1)/2)
			if !ok || total != powerOf(base, width)-powerOf(base, width-1) || spread[0] != half-half/base {
				t.Fatalf("StepsSpread of width %d in base %d: %v %v", width, base, spread, ok)
			}
			number, times, ok := impl.SlowestNumber(width, base, most)
			last := most
			for spread[last] == 0 {
				last--
			}
			if times != last || !ok {
				t.Fatalf("SlowestNumber of width %d in base %d: %d %d %v, but StepsSpread %v", width, base, number, times, ok, spread)
			}
			checkTimes(t, digitsOf(number, base), base, most, times)
		}
	})
}

func TestWordsThatNeverGetThere(t *testing.T) {
	for k := 2; k <= 17; k++ {
		word, ok := impl.NeverWord(k)
		want := "10" + textOf(1<<k-1, 2) + "01" + textOf(1<<k, 2)[1:]
		checkWord(t, "NeverWord", []int{k}, 2, word, ok, digitsOfLetters(want))
		checkTimes(t, word, 2, mostAdded, -1)
		for range 4 {
			is, ok := impl.IsSymmetric(word, 2)
			checkIs(t, "IsSymmetric", word, 2, is, ok, false)
			if word, ok = impl.AddReversed(word, 2); !ok {
				t.Fatal("AddReversed fails", k)
			}
		}
		wantNext := "10" + textOf(1<<(k+1)-1, 2) + "01" + textOf(1<<(k+1), 2)[1:]
		checkWord(t, "the word behind NeverWord", []int{k}, 2, word, ok, digitsOfLetters(wantNext))
		if next, ok := impl.NeverWord(k + 1); ok && !slices.Equal(next, word) {
			t.Errorf("NeverWord of %d is not four times behind that of %d: %v", k+1, k, next)
		}
	}
}

func TestDifferencesOfReversed(t *testing.T) {
	for _, base := range bases {
		for _, digits := range longDigitsToTry(base) {
			want := digitsOfLetters(subtractedText(lettersOf(digits), base))
			difference, ok := impl.SubtractReversed(digits, base)
			checkWord(t, "SubtractReversed", digits, base, difference, ok, want)
		}
	}
	for _, c := range []struct{ from, to string }{{"12", "9"}, {"21", "9"}, {"532", "297"}, {"235", "297"}, {"1089", "8712"}, {"9801", "8712"}, {"1000", "999"}} {
		difference, ok := impl.SubtractReversed(digitsOfLetters(c.from), 10)
		checkWord(t, "SubtractReversed", digitsOfLetters(c.from), 10, difference, ok, digitsOfLetters(c.to))
	}
}
