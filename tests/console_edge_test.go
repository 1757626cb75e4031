package tests

import (
	"slices"
	"strconv"
	"strings"
	"testing"

	"loop.example/g01151/impl"
)

// checkNoDesk takes what cannot be a desk, for which lines fail whatever they are.
func checkNoDesk(t *testing.T, d impl.Desk) {
	t.Helper()
	if impl.IsDesk(d) {
		t.Errorf("IsDesk %v", d)
	}
	for _, line := range []string{"", "show", "base 10", "take 1", "number 1", "fly", "own 2", "a\nb", strings.Repeat("x", mostScript+1)} {
		checkNoLine(t, d, line)
	}
}

func checkNoLine(t *testing.T, d impl.Desk, line string) {
	t.Helper()
	if desk, reply, ok := impl.DeskLine(d, line); desk != (impl.Desk{}) || reply != "" || ok {
		t.Errorf("%q on %v: %v %q %v", line, d, desk, reply, ok)
	}
}

func checkNoScript(t *testing.T, s string) {
	t.Helper()
	if replies, ok := impl.RunScript(s); len(replies) != 0 || ok {
		t.Errorf("RunScript %q: %q %v", s, replies, ok)
	}
	if desk, ok := impl.DeskAfter(s); desk != (impl.Desk{}) || ok {
		t.Errorf("DeskAfter %q: %v %v", s, desk, ok)
	}
	failed, ok := impl.FailedLines(s)
	checkNoList(t, "FailedLines", failed, ok)
}

// checkWhat takes lines that are none on any desk.
func checkWhat(t *testing.T, lines ...string) {
	t.Helper()
	for _, line := range lines {
		for _, d := range desksToTry() {
			checkUnchanged(t, d, line, "what")
		}
	}
}

func TestDesksAtTheLimits(t *testing.T) {
	for _, base := range bases {
		for _, n := range []int{0, 1, 7, limit - 1, limit} {
			d := deskOf(n, base)
			if !impl.IsDesk(d) {
				t.Errorf("IsDesk %v", d)
			}
			checkUnchanged(t, d, "show", textOf(n, base))
		}
	}
	for _, d := range []impl.Desk{deskOf(7, 1), deskOf(7, 17), deskOf(0, 0), deskOf(0, 1), deskOf(limit, 17), deskOf(limit+1, 2), deskOf(limit+1, 10), deskOf(limit+1, 16), deskOf(-1, 2), deskOf(-1, 10), deskOf(-1, 16), deskOf(-7, -10), deskOf(10, -2)} {
		checkNoDesk(t, d)
	}
}

func TestTheEmptyScript(t *testing.T) {
	checkScriptIs(t, "", nil, decimal(7), nil)
}

func TestScriptsOfJustAsManyLinesAsTheyMayHave(t *testing.T) {
	for _, line := range []string{"show", "", "fly", "next"} {
		for _, count := range []int{1, 2, mostLines - 1, mostLines} {
			checkScript(t, scriptOf(slices.Repeat([]string{line}, count)...))
		}
		for _, count := range []int{mostLines + 1, mostLines + 2, 2 * mostLines} {
			checkNoScript(t, scriptOf(slices.Repeat([]string{line}, count)...))
		}
	}
	checkScriptIs(t, strings.Repeat("show\n", mostLines), slices.Repeat([]string{"7"}, mostLines), decimal(7), nil)
	checkNoScript(t, strings.Repeat("\n", mostScript))
}

func TestScriptsOfJustAsManyBytesAsTheyMayHave(t *testing.T) {
	long := strings.Repeat("0", mostScript-8) // with its name and a newline, just as many bytes
	checkScriptIs(t, "number "+long+"\n", []string{"no"}, decimal(7), []int{1})
	checkNoScript(t, "number "+long+"0\n")
	checkScript(t, strings.Repeat("x", mostScript-1)+"\n")
	checkNoScript(t, strings.Repeat("x", mostScript)+"\n")
	checkNoScript(t, strings.Repeat("x", mostScript))
	checkNoScript(t, strings.Repeat("x", mostScript+1))

	some := scriptOf("take 12", "reverse", "")
	full := some + strings.Repeat(" ", mostScript-len(some)-6) + "\nshow\n"
	checkScriptIs(t, full, []string{"12", "21", "what", "what", "21"}, decimal(21), []int{3, 4})
	checkNoScript(t, "\n"+full)
	checkNoScript(t, full+"\n")

	lines := slices.Repeat([]string{strings.Repeat("y", mostScript/mostLines-1)}, mostLines) // both limits at once
	checkScript(t, scriptOf(lines...))
	lines[7] += "y"
	checkNoScript(t, scriptOf(lines...))
}

func TestScriptsWhoseLastLineHasNoNewline(t *testing.T) {
	for _, s := range []string{"show", " ", "x", "show\nshow", "show\nshow\nx", "\nx", "\n ", "\n\r", "fly\n\x00", scriptOf(slices.Repeat([]string{"show"}, mostLines-1)...) + "show", scriptOf(slices.Repeat([]string{"show"}, mostLines)...) + "x"} {
		checkNoScript(t, s)
		if strings.Count(s, "\n") < mostLines {
			checkScript(t, s+"\n")
		}
	}
}

func TestEmptyLines(t *testing.T) {
	checkWhat(t, "")
	checkScriptIs(t, "\n", []string{"what"}, decimal(7), []int{1})
	checkScriptIs(t, "\n\nshow\n\n", []string{"what", "what", "7", "what"}, decimal(7), []int{1, 2, 4})
}

// A line may have more bytes than one of a script, which has a newline besides.
func TestLinesOfJustAsManyBytesAsTheyMayHave(t *testing.T) {
	for _, d := range []impl.Desk{impl.FirstDesk(), deskOf(0, 2), deskOf(limit, 16)} {
		for _, length := range []int{mostScript - 1, mostScript} {
			checkUnchanged(t, d, strings.Repeat("x", length), "what")
			checkUnchanged(t, d, strings.Repeat(" ", length), "what")
			checkUnchanged(t, d, "number "+strings.Repeat("1", length-7), "no")
			checkUnchanged(t, d, "take "+strings.Repeat("1", length-5), "what")
			checkUnchanged(t, d, "base "+strings.Repeat("1", length-5), "what")
		}
		for _, length := range []int{mostScript + 1, mostScript + 2, 2 * mostScript, 100000} {
			checkNoLine(t, d, strings.Repeat("x", length))
			checkNoLine(t, d, strings.Repeat(" ", length))
			checkNoLine(t, d, "number "+strings.Repeat("1", length-7))
		}
	}
}

func TestLinesWithANewline(t *testing.T) {
	for _, line := range []string{"\n", "show\n", "\nshow", "show\nshow", "take \n7", "take 7\n", "number \n", "fly\n", " \n ", strings.Repeat("x", mostScript-1) + "\n", strings.Repeat("\n", mostScript)} {
		for _, d := range []impl.Desk{impl.FirstDesk(), deskOf(0, 2), deskOf(limit, 16), {}, deskOf(7, 1), deskOf(7, 17), deskOf(-1, 10), deskOf(limit+1, 10)} {
			checkNoLine(t, d, line)
		}
	}
	checkWhat(t, "\r", "show\r", "show\v", "show\u2028", "show\u0085")
}

func TestBlanksMakeEmptyWords(t *testing.T) {
	for _, name := range plainLines {
		checkWhat(t, " "+name, name+" ", " "+name+" ", name+"  ")
	}
	for _, name := range namesWithWord {
		checkWhat(t, " "+name+" 1", name+"  1", name+" 1 ", name+" 1  ", name+"  ", "  "+name)
	}
	for _, name := range []string{"take", "base", "power", "run", "own", "word"} {
		checkWhat(t, name+" ") // the empty word is neither a number nor the text of one
	}
	checkWhat(t, " ", "  ", strings.Repeat(" ", 100))
	for _, d := range desksToTry() {
		checkUnchanged(t, d, "number ", "1") // but it has no other letters than 0 and 1
	}
}

func TestTooFewAndTooManyWords(t *testing.T) {
	for _, name := range plainLines {
		checkWhat(t, name+" 1", name+" 10", name+" "+name, name+" 1 1", name+" x", name+" 999999999999999999999")
	}
	for _, name := range namesWithWord {
		checkWhat(t, name, name+" 1 1", name+" 10 10 10", name+" 1 x", name+" 1 "+name)
	}
}

func TestLettersOfTheOtherCase(t *testing.T) {
	for _, name := range slices.Concat(plainLines, namesWithWord) {
		upper := strings.ToUpper(name[:1]) + name[1:]
		checkWhat(t, upper, upper+" 1", strings.ToUpper(name), strings.ToUpper(name)+" 1", name[:len(name)-1]+strings.ToUpper(name[len(name)-1:]))
	}
	checkWhat(t, "take A", "take F", "take 4B0", "take aB")
	checkReply(t, deskOf(1, 16), deskReply{"take ab", "ab", deskOf(171, 16)})
}

// numberedCalls tell what a line with a number does, if it is one.
var numberedCalls = map[string]func(d impl.Desk, k int) bool{
	"base":  func(_ impl.Desk, k int) bool { return 2 <= k && k <= 16 },
	"power": func(_ impl.Desk, k int) bool { return 1 <= k && k <= 8 },
	"run":   func(_ impl.Desk, k int) bool { return 1 <= k && k <= 4 },
	"own":   func(d impl.Desk, k int) bool { return 1 <= k && k <= 6 && d.Base <= 10 },
	"word":  func(d impl.Desk, k int) bool { return k <= 20 && d.Number > 0 },
}

func TestNumbersInLines(t *testing.T) {
	for name, succeeds := range numberedCalls {
		for _, d := range []impl.Desk{deskOf(0, 2), deskOf(0, 10), deskOf(7, 2), deskOf(7, 10), deskOf(1200, 10), deskOf(1200, 11), deskOf(1200, 16)} {
			for _, k := range []int{0, 1, 2, 3, 4, 5, 6, 7, 8, 9, 10, 11, 15, 16, 17, 19, 20, 21, 22, 99, 100, 99999, 100000, mostLineNumber - 1, mostLineNumber} {
				line := name + " " + strconv.Itoa(k)
				_, reply, ok := impl.DeskLine(d, line)
				if !ok || reply == "what" || (reply != "no") != succeeds(d, k) {
					t.Fatalf("%q on %v: %q %v", line, d, reply, ok)
				}
				checkLine(t, d, line)
			}
		}
		for _, word := range []string{"1000000", "1000001", "9999999", "4294967298", "1000000000000", "18446744073709551618", strings.Repeat("1", 40), strings.Repeat("2", 41), strings.Repeat("9", 100), "1" + strings.Repeat("0", 99)} {
			checkWhat(t, name+" "+word)
		}
		for _, word := range []string{"00", "01", "02", "002", "000001", "0000002", "0999999", strings.Repeat("0", 100), strings.Repeat("0", 99) + "2"} {
			checkWhat(t, name+" "+word)
		}
		for _, word := range []string{"-0", "-1", "-2", "+0", "+1", "+2", "--2", "-", "+", "2-", "2+", "2.", "2.0", ".2", "2e0", "2,", "1_0", "0x2", "0b1", "0o2", "a", "1a", "a1", "f", "2\x00", "\x002", "\xb2", "²", "٢", "２"} {
			checkWhat(t, name+" "+word)
		}
	}
}

// The number of a line is in decimal on each desk.
func TestNumbersInLinesAreDecimal(t *testing.T) {
	for _, base := range bases {
		d := deskOf(7, base)
		for _, to := range bases {
			checkReply(t, d, deskReply{"base " + strconv.Itoa(to), "ok", deskOf(7, to)})
		}
		checkUnchanged(t, d, "word 10", "1110100100") // 7, 11, 17, 26, 13, 20, 10, 5, 8 and 4
	}
}

func TestBasesThatAreNone(t *testing.T) {
	for _, d := range desksToTry() {
		for _, base := range []string{"0", "1", "17", "18", "20", "36", "100", "258", "65538", "999999"} {
			checkUnchanged(t, d, "base "+base, "no")
		}
		for _, base := range []string{"-2", "02", "2.0", "two", "1000000", "4294967298"} {
			checkUnchanged(t, d, "base "+base, "what")
		}
	}
	checkScriptIs(t, "base 1\nshow\nbase 17\nbase 16\ntake 10\nbase 0\nshow\n", []string{"no", "7", "no", "ok", "10", "no", "10"}, deskOf(16, 16), []int{1, 3, 6})
}

func TestTextsTaken(t *testing.T) {
	for _, base := range bases {
		d := deskOf(5, base)
		for _, n := range []int{0, 1, base - 1, base, base*base - 1, limit - 1, limit} {
			text := textOf(n, base)
			checkReply(t, d, deskReply{"take " + text, text, deskOf(n, base)})
			for _, zeros := range []string{"0", "00", strings.Repeat("0", 40)} {
				checkUnchanged(t, d, "take "+zeros+text, "what")
			}
			for _, sign := range []string{"-", "+", "0x", "_", "\x00"} {
				checkUnchanged(t, d, "take "+sign+text, "what")
				checkUnchanged(t, d, "take "+text+sign, "what")
			}
		}
		for _, n := range []int{limit + 1, limit + 2, 2 * limit, 1 << 41, 1 << 62} {
			checkUnchanged(t, d, "take "+textOf(n, base), "what")
		}
		for _, digit := range "0123456789abcdefghz" {
			text := string(digit)
			if n := strings.IndexRune("0123456789abcdef", digit); 0 <= n && n < base {
				checkReply(t, d, deskReply{"take 1" + text, "1" + text, deskOf(base+n, base)})
			} else {
				checkUnchanged(t, d, "take 1"+text, "what")
				checkUnchanged(t, d, "take "+text, "what")
			}
		}
		for _, length := range []int{41, 64, 100, 1000} {
			checkUnchanged(t, d, "take 1"+strings.Repeat("0", length-1), "what")
			checkUnchanged(t, d, "take "+strings.Repeat("1", length), "what")
		}
	}
}

func TestWordsOfLettersInLines(t *testing.T) {
	for _, d := range desksToTry() {
		checkUnchanged(t, d, "number ", "1")
		checkUnchanged(t, d, "number 0", "2")
		checkUnchanged(t, d, "number 1", "1")
		checkUnchanged(t, d, "number 0000", "16")
		checkUnchanged(t, d, "number "+strings.Repeat("0", mostLetters), "1048576")
		checkUnchanged(t, d, "number "+strings.Repeat("1", mostLetters), "1048575")
		for _, length := range []int{mostLetters + 1, mostLetters + 2, 40, 41, 64, 100, 2000} {
			checkUnchanged(t, d, "number "+strings.Repeat("0", length), "no")
			checkUnchanged(t, d, "number "+strings.Repeat("1", length), "no")
			checkUnchanged(t, d, "number "+strings.Repeat("01", length/2+1), "no")
		}
	}
	for _, length := range []int{0, 1, 10, mostLetters - 1, mostLetters, 100, 1400} {
		letters := strings.Repeat("1", length)
		checkWhat(t, "number "+letters+"2", "number 2"+letters, "number "+letters+"2"+letters, "number -"+letters, "number "+letters+"x", "number "+letters+"\x00", "number \xff"+letters)
	}
}

func TestWordsOfNumbersInLines(t *testing.T) {
	for _, d := range desksToTry() {
		if d.Number > 0 {
			checkUnchanged(t, d, "word 0", "-")
			checkUnchanged(t, d, "word 1", strconv.Itoa(d.Number%2))
		}
		checkUnchanged(t, d, "word 21", "no")
		checkUnchanged(t, d, "word 999999", "no")
		checkUnchanged(t, d, "word 1000000", "what")
	}
	// The letters of the greatest odd numbers are those of numbers above the limit, but for the first.
	for _, n := range []int{limit - 1, limit - 3} {
		checkUnchanged(t, decimal(n), "word 1", "1")
		checkUnchanged(t, decimal(n), "word 2", "no")
	}
}

// No call named by a line gives an empty list.
func TestListsInRepliesOfOneNumber(t *testing.T) {
	for _, base := range bases {
		for n := range base {
			checkUnchanged(t, deskOf(n, base), "digits", strconv.Itoa(n))
			checkUnchanged(t, deskOf(n, base), "run 1", strconv.Itoa(n))
		}
		for _, line := range []string{"run 1", "run 2", "run 3", "run 4"} {
			checkUnchanged(t, deskOf(0, base), line, "0")
			checkUnchanged(t, deskOf(1, base), line, "1")
		}
	}
	checkUnchanged(t, deskOf(limit, 2), "own 2", "0,1")
	checkUnchanged(t, decimal(153), "run 3", "153")
}

func TestTheNumberZeroOnADesk(t *testing.T) {
	for _, base := range bases {
		d := deskOf(0, base)
		for line, reply := range map[string]string{"reverse": "0", "up": "0", "down": "0", "show": "0", "digits": "0", "sum": "0", "root": "0", "ways": "1", "happy": "sad", "power 3": "0", "run 4": "0", "step": "no", "short": "no", "steps": "no", "word 0": "no", "word 4": "no", "number 0": "2"} {
			checkUnchanged(t, d, line, reply)
		}
		checkReply(t, d, deskReply{"next", "1", deskOf(1, base)})
	}
}

// Each of these lines fails because its function does, and is known all the same.
func TestFunctionsThatFail(t *testing.T) {
	ones := "1" + strings.Repeat("0", 30) + strings.Repeat("1", 9) // 40 digits, which are greater than the limit in the other order
	for _, c := range []struct{ before, line string }{
		{"base 2\ntake " + ones, "reverse"},
		{"base 2\ntake " + ones, "down"},
		{"base 16\ntake 123456789f", "down"},
		{"take 999999999999", "next"},
		{"take 1000000000000", "next"},
		{"take 333333333335", "step"},
		{"take 666666666667", "short"},
		{"take 4637979", "steps"},
		{"take 0", "step"},
		{"take 0", "short"},
		{"take 0", "steps"},
		{"take 0", "word 3"},
		{"take 999999999999", "word 2"},
		{"take 12", "word 21"},
		{"take 12", "power 0"},
		{"take 12", "power 9"},
		{"take 12", "run 0"},
		{"take 12", "run 5"},
		{"take 12", "own 0"},
		{"take 12", "own 7"},
		{"base 11\ntake a", "own 2"},
		{"take 12", "number 000000000000000000000"},
		{"take 12", "base 17"},
	} {
		s := scriptOf(c.before, c.line, "show", c.line, "fly", "show")
		before, ok := impl.DeskAfter(c.before + "\n")
		count := strings.Count(c.before, "\n") + 1
		text := textOf(before.Number, before.Base)
		replies, rok := impl.RunScript(s)
		if !ok || !rok || !slices.Equal(replies[count:], []string{"no", text, "no", "what", text}) {
			t.Fatalf("%q: %q", s, replies)
		}
		checkScriptIs(t, s, replies, before, []int{count + 1, count + 3, count + 4})
	}
}

func TestNumbersThatJustDoNotFail(t *testing.T) {
	for _, c := range []struct {
		n     int
		line  string
		reply string
	}{
		{999999999998, "next", "999999999999"},
		{333333333333, "step", "1000000000000"},
		{666666666665, "short", "999999999998"},
		{limit, "reverse", "1"},
		{limit, "down", "1000000000000"},
		{limit, "up", "1"},
		{limit, "step", "500000000000"},
		{limit, "ways", "1"},
		{limit, "power 8", "1"},
		{999999999999, "power 8", "516560652"},
		{987654321012, "reverse", "210123456789"},
	} {
		n, _ := valueOf(c.reply, 10)
		if c.line == "ways" {
			n = c.n
		}
		checkReply(t, decimal(c.n), deskReply{c.line, c.reply, decimal(n)})
	}
}

// A line with an effect on the number shows the new one, on the same base.
func TestRepliesToChanges(t *testing.T) {
	for _, d := range desksToTry() {
		for _, line := range []string{"take 1", "reverse", "up", "down", "power 2", "step", "short", "next"} {
			behind, reply, ok := impl.DeskLine(d, line)
			shown, text, sok := impl.DeskLine(behind, "show")
			if !ok || !sok || shown != behind || behind.Base != d.Base || reply != "no" && reply != text || reply == "no" && behind != d {
				t.Fatalf("%q on %v: %v %q, shown as %q", line, d, behind, reply, text)
			}
		}
	}
}

func TestScriptsWhoseLinesAllFail(t *testing.T) {
	all := make([]int, mostLines)
	for i := range all {
		all[i] = i + 1
	}
	for line, reply := range map[string]string{"": "what", "fly": "what", "own 7": "no", "base 1": "no", "take x": "what"} {
		checkScriptIs(t, scriptOf(slices.Repeat([]string{line}, mostLines)...), slices.Repeat([]string{reply}, mostLines), decimal(7), all)
	}
	checkScriptIs(t, "own 7\nfly\nbase 1\n\n", []string{"no", "what", "no", "what"}, decimal(7), []int{1, 2, 3, 4})
}

func TestScriptsWhoseLinesAllSucceed(t *testing.T) {
	checkScriptIs(t, "happy\nnext\nword 0\nnumber \nbase 3\ndown\nown 2\n", []string{"yes", "8", "-", "1", "ok", "22", "0,1,5,8"}, deskOf(8, 3), nil)
	checkScriptIs(t, strings.Repeat("next\n", 3), []string{"8", "9", "11"}, decimal(11), nil)
}

func TestBytesThatAreNoLetters(t *testing.T) {
	for b := range 256 {
		text := string([]byte{byte(b)})
		if text == "\n" {
			continue
		}
		checkWhat(t, text, text+"show", "show"+text, "sh"+text+"ow", "fly"+text)
		for _, name := range namesWithWord {
			for _, line := range []string{name + " " + text, name + text + "1", name + " 1" + text, name + " " + text + "1"} {
				checkLine(t, impl.FirstDesk(), line)
				checkLine(t, deskOf(1200, 16), line)
			}
		}
		checkScript(t, text+"\nshow\nshow"+text+"\n"+text+text+"\n")
	}
}
