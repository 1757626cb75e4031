package tests

import (
	"fmt"
	"math/rand/v2"
	"regexp"
	"slices"
	"strconv"
	"strings"

	"loop.example/g01151/impl"
)

// The functions here know lines and scripts by patterns, the calls that lines name by tables, and replies by what the library fmt prints, so that the tests share no method with the program.

const (
	mostScript     = 3000
	mostLines      = 50
	mostLineNumber = 999999
)

var (
	scriptPattern = regexp.MustCompile(`\A([^\n]*\n){0,50}\z`)
	numberPattern = regexp.MustCompile(`\A(base|power|run|own|word) (0|[1-9][0-9]{0,5})\z`)
	takePattern   = regexp.MustCompile(`\Atake ([0-9a-f]+)\z`)
	letterPattern = regexp.MustCompile(`\Anumber ([01]*)\z`)
)

// changesOfLines are the calls of lines with an effect on the number; k is the number in the line.
var changesOfLines = map[string]func(n int, base int, k int) (int, bool){
	"reverse": func(n int, base int, _ int) (int, bool) { return impl.ReverseNumber(n, base) },
	"up":      func(n int, base int, _ int) (int, bool) { return impl.SortedUp(n, base) },
	"down":    func(n int, base int, _ int) (int, bool) { return impl.SortedDown(n, base) },
	"step":    func(n int, _ int, _ int) (int, bool) { return impl.StepOf(n) },
	"short":   func(n int, _ int, _ int) (int, bool) { return impl.ShortStep(n) },
	"next":    func(n int, base int, _ int) (int, bool) { return impl.NextPalindrome(n, base) },
	"power":   impl.PowerSum,
}

// questionsOfLines are the calls of lines that only reply.
var questionsOfLines = map[string]func(n int, base int, k int) (any, bool){
	"show":   asked(func(n int, base int, _ int) (string, bool) { return impl.NumberText(n, base) }),
	"digits": asked(func(n int, base int, _ int) ([]int, bool) { return impl.DigitsOf(n, base) }),
	"sum":    asked(func(n int, base int, _ int) (int, bool) { return impl.DigitSum(n, base) }),
	"root":   asked(func(n int, base int, _ int) (int, bool) { return impl.DigitalRoot(n, base) }),
	"ways":   asked(func(n int, base int, _ int) (int, bool) { return impl.CountRearranged(n, base) }),
	"run":    asked(impl.PowerRun),
	"happy":  asked(func(n int, base int, _ int) (bool, bool) { return impl.IsHappy(n, base) }),
	"own":    asked(func(_ int, base int, k int) ([]int, bool) { return impl.OwnPowers(base, k) }),
	"steps":  asked(func(n int, _ int, _ int) (int, bool) { return impl.StepsTo(n) }),
	"word":   asked(func(n int, _ int, k int) (string, bool) { return impl.ParityWord(n, k) }),
}

var plainLines = []string{"reverse", "up", "down", "step", "short", "next", "show", "digits", "sum", "root", "ways", "happy", "steps"}

// namesWithWord are the names of lines that have a word behind.
var namesWithWord = []string{"take", "base", "power", "run", "own", "word", "number"}

func deskOf(n int, base int) impl.Desk { return impl.Desk{Number: n, Base: base} }

func asked[T any](call func(n int, base int, k int) (T, bool)) func(n int, base int, k int) (any, bool) {
	return func(n int, base int, k int) (any, bool) {
		value, ok := call(n, base, k)
		return value, ok
	}
}

func printed(value any) string {
	text := strings.ReplaceAll(strings.Trim(fmt.Sprint(value), "[]"), " ", ",")
	switch text {
	case "":
		return "-"
	case "true":
		return "yes"
	case "false":
		return "sad"
	}
	return text
}

// answerTo returns the desk and the reply that a line should leave behind.
func answerTo(d impl.Desk, line string) (impl.Desk, string) {
	if slices.Contains(plainLines, line) {
		return answerToCall(d, line, 0)
	}
	if found := numberPattern.FindStringSubmatch(line); found != nil {
		k, _ := strconv.Atoi(found[2])
		return answerToCall(d, found[1], k)
	}
	if found := takePattern.FindStringSubmatch(line); found != nil {
		n, ok := valueOf(found[1], d.Base)
		if ok && textOf(n, d.Base) == found[1] {
			return deskOf(n, d.Base), found[1]
		}
	}
	if found := letterPattern.FindStringSubmatch(line); found != nil {
		n, ok := impl.NumberOfWord(found[1])
		if !ok {
			return d, "no"
		}
		return d, printed(n)
	}
	return d, "what"
}

// answerToCall takes lines whose words are what they should be.
func answerToCall(d impl.Desk, name string, k int) (impl.Desk, string) {
	if name == "base" {
		if !slices.Contains(bases, k) {
			return d, "no"
		}
		return deskOf(d.Number, k), "ok"
	}
	if change, is := changesOfLines[name]; is {
		n, ok := change(d.Number, d.Base, k)
		if !ok {
			return d, "no"
		}
		return deskOf(n, d.Base), textOf(n, d.Base)
	}
	value, ok := questionsOfLines[name](d.Number, d.Base, k)
	if !ok {
		return d, "no"
	}
	return d, printed(value)
}

func isScriptOf(s string) bool { return len(s) <= mostScript && scriptPattern.MatchString(s) }

// answersTo returns what a script should leave behind: the replies, the desk and the lines that failed.
func answersTo(s string) ([]string, impl.Desk, []int) {
	desk := deskOf(7, 10)
	var replies []string
	var failed []int
	for line := range strings.Lines(s) {
		var reply string
		desk, reply = answerTo(desk, strings.TrimSuffix(line, "\n"))
		replies = append(replies, reply)
		if reply == "no" || reply == "what" {
			failed = append(failed, len(replies))
		}
	}
	return replies, desk, failed
}

// scriptOf ends each line by a newline.
func scriptOf(lines ...string) string {
	var script strings.Builder
	for _, line := range lines {
		script.WriteString(line + "\n")
	}
	return script.String()
}

// secondWords returns words that some names of lines take and words that none does.
func secondWords() []string {
	words := []string{"", "-1", "+1", "-0", "1.0", "1e3", "0x1", "01", "00", "007", "1_0", "x", "g", "f", "F", "ff", "A", "a0", "0a", "4b0", "9", "2", "12", "102", "show", "yes", "-"}
	for k := range 22 {
		words = append(words, strconv.Itoa(k))
	}
	for k := range 24 {
		words = append(words, strings.Repeat("1", k), strings.Repeat("01", k), strings.Repeat("0", k)+"1")
	}
	for _, n := range []int{99999, 100000, mostLineNumber - 1, mostLineNumber, mostLineNumber + 1, 1234567, limit - 1, limit, limit + 1, 1 << 32, 1<<32 + 2, 1 << 62} {
		words = append(words, strconv.Itoa(n), strconv.FormatInt(int64(n), 2), strconv.FormatInt(int64(n), 16))
	}
	return append(words, strings.Repeat("1", 100), strings.Repeat("9", 100), "18446744073709551618", "1\x00", "\xff", "\xb2", "٢", "½", "1\r", "\t1", "1\t")
}

// linesToTry has all names alone, with each word and with more of them, and names that are none.
func linesToTry() []string {
	lines := []string{"", " ", "  ", "fly", "Show", "SHOW", "shows", "sho", "show\r", "show\t", "\tshow", "sh ow", "\xff", "\x00", "no", "what", "ok", "-", "7", "up down", "up,down", "show;"}
	words := secondWords()
	for _, name := range slices.Concat(plainLines, namesWithWord) {
		lines = append(lines, name, " "+name, name+" ", "  "+name, name+"  ", strings.ToUpper(name), name+"\x00", name+name)
		for _, word := range words {
			lines = append(lines, name+" "+word)
		}
		for _, word := range []string{"1", "2", "10"} {
			lines = append(lines, name+"  "+word, " "+name+" "+word, name+" "+word+" ", name+" "+word+" "+word, name+word, name+"\t"+word, strings.ToUpper(name)+" "+word, word+" "+name)
		}
	}
	return lines
}

// desksToTry has for each base the numbers at the limits, those that lead beyond them, and some between.
func desksToTry() []impl.Desk {
	var desks []impl.Desk
	for _, base := range bases {
		for _, n := range []int{0, 1, 2, 7, 16, 27, 1200, 4637979, limit / 3, limit/3 + 2, limit - 1, limit} {
			desks = append(desks, deskOf(n, base))
		}
	}
	return desks
}

// chosenLines returns so many of the lines, which are always the same for a seed, and as many as a script may have bytes for.
func chosenLines(seed uint64, count int, lines []string) []string {
	choice := rand.New(rand.NewPCG(seed, 10))
	var chosen []string
	for size := 0; len(chosen) < count; {
		line := lines[choice.IntN(len(lines))]
		size += len(line) + 1
		if size > mostScript {
			break
		}
		chosen = append(chosen, line)
	}
	return chosen
}
