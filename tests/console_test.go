package tests

import (
	"slices"
	"strconv"
	"strings"
	"testing"

	"loop.example/g01151/impl"
)

// Promise 10: scripts do what the calls do that they name.

// deskReply is a line with the reply and the desk that it should leave behind.
type deskReply struct {
	line  string
	reply string
	desk  impl.Desk
}

func checkReply(t *testing.T, d impl.Desk, want deskReply) {
	t.Helper()
	desk, reply, ok := impl.DeskLine(d, want.line)
	if desk != want.desk || reply != want.reply || !ok {
		t.Fatalf("%q on %v: %v %q %v, want %v %q", want.line, d, desk, reply, ok, want.desk, want.reply)
	}
}

// checkUnchanged takes lines that leave the desk as it is.
func checkUnchanged(t *testing.T, d impl.Desk, line string, reply string) {
	t.Helper()
	checkReply(t, d, deskReply{line, reply, d})
}

func checkLine(t *testing.T, d impl.Desk, line string) {
	t.Helper()
	desk, reply := answerTo(d, line)
	checkReply(t, d, deskReply{line, reply, desk})
}

func checkScriptIs(t *testing.T, s string, replies []string, desk impl.Desk, failed []int) {
	t.Helper()
	if got, ok := impl.RunScript(s); !ok || !slices.Equal(got, replies) {
		t.Fatalf("RunScript %q: %q %v, want %q", s, got, ok, replies)
	}
	if got, ok := impl.DeskAfter(s); !ok || got != desk {
		t.Fatalf("DeskAfter %q: %v %v, want %v", s, got, ok, desk)
	}
	if got, ok := impl.FailedLines(s); !ok || !slices.Equal(got, failed) {
		t.Fatalf("FailedLines %q: %v %v, want %v", s, got, ok, failed)
	}
}

func checkScript(t *testing.T, s string) {
	t.Helper()
	replies, desk, failed := answersTo(s)
	checkScriptIs(t, s, replies, desk, failed)
}

func decimal(n int) impl.Desk { return deskOf(n, 10) }

func TestLimitsOfScriptsAreThoseOfTheDocument(t *testing.T) {
	if impl.MaxScript != mostScript || impl.MaxLines != mostLines {
		t.Error(impl.MaxScript, impl.MaxLines)
	}
}

func TestFirstDesk(t *testing.T) {
	if first := impl.FirstDesk(); first != decimal(7) || !impl.IsDesk(first) {
		t.Error(first)
	}
}

func TestExampleOfScripts(t *testing.T) {
	checkScriptIs(t, "run 2\nhappy\nsteps\nword 4\nbase 2\nshow\nreverse\nfly\n",
		[]string{"7,49,97,130,10,1", "yes", "16", "1110", "ok", "111", "111", "what"}, deskOf(7, 2), []int{8})
}

func TestEachLineInTheBaseTen(t *testing.T) {
	d := decimal(1200)
	for _, want := range []deskReply{
		{"take 33", "33", decimal(33)},
		{"base 16", "ok", deskOf(1200, 16)},
		{"reverse", "21", decimal(21)},
		{"up", "12", decimal(12)},
		{"down", "2100", decimal(2100)},
		{"power 1", "3", decimal(3)},
		{"power 3", "9", decimal(9)},
		{"power 8", "257", decimal(257)},
		{"step", "600", decimal(600)},
		{"short", "600", decimal(600)},
		{"next", "1221", decimal(1221)},
		{"show", "1200", d},
		{"digits", "1,2,0,0", d},
		{"sum", "3", d},
		{"root", "3", d},
		{"ways", "6", d},
		{"run 1", "1200,3", d},
		{"run 2", "1200,5,25,29,85,89,145,42,20,4,16,37,58", d},
		{"happy", "sad", d},
		{"own 1", "0,1,2,3,4,5,6,7,8,9", d},
		{"own 3", "0,1,153,370,371,407", d},
		{"own 6", "0,1,548834", d},
		{"steps", "18", d},
		{"word 8", "00001101", d},
		{"word 0", "-", d},
		{"number 1110", "7", d},
		{"number ", "1", d},
		{"fly", "what", d},
	} {
		checkReply(t, d, want)
	}
}

// Texts are in the base of the desk, and all other numbers in decimal.
func TestEachLineInOtherBases(t *testing.T) {
	d := deskOf(1200, 16) // 4b0
	for _, want := range []deskReply{
		{"take ff", "ff", deskOf(255, 16)},
		{"take 10", "10", deskOf(16, 16)},
		{"base 10", "ok", decimal(1200)},
		{"reverse", "b4", deskOf(180, 16)},
		{"up", "4b", deskOf(75, 16)},
		{"down", "b40", deskOf(2880, 16)},
		{"power 2", "89", deskOf(137, 16)},
		{"step", "258", deskOf(600, 16)},
		{"short", "258", deskOf(600, 16)},
		{"next", "4b4", deskOf(1204, 16)},
		{"show", "4b0", d},
		{"digits", "4,11,0", d},
		{"sum", "15", d},
		{"root", "15", d},
		{"ways", "4", d},
		{"run 1", "1200,15", d},
		{"own 2", "no", d},
		{"steps", "18", d},
		{"word 8", "00001101", d},
		{"number 1110", "7", d},
	} {
		checkReply(t, d, want)
	}
	d = deskOf(7, 2)
	for _, want := range []deskReply{
		{"take 10", "10", deskOf(2, 2)},
		{"step", "10110", deskOf(22, 2)},
		{"short", "1011", deskOf(11, 2)},
		{"power 4", "11", deskOf(3, 2)},
		{"next", "1001", deskOf(9, 2)},
		{"base 16", "ok", deskOf(7, 16)},
		{"digits", "1,1,1", d},
		{"sum", "3", d},
		{"root", "1", d},
		{"ways", "1", d},
		{"run 4", "7,3,2,1", d},
		{"happy", "yes", d},
		{"own 5", "0,1", d},
		{"number 01", "2", d},
	} {
		checkReply(t, d, want)
	}
}

func TestLinesDoWhatTheirCallsDo(t *testing.T) {
	lines := linesToTry()
	replies := map[string]int{}
	for _, d := range desksToTry() {
		for _, line := range lines {
			checkLine(t, d, line)
			_, reply := answerTo(d, line)
			replies[reply]++
		}
	}
	for _, reply := range []string{"ok", "no", "what", "yes", "sad", "-", "0", "1"} {
		if replies[reply] == 0 {
			t.Error("never", reply)
		}
	}
}

func TestSomeNumbersInEachLine(t *testing.T) {
	for _, base := range bases {
		for i, n := range numbersToTry(base) {
			d := deskOf(n, base)
			checkUnchanged(t, d, "show", textOf(n, base))
			checkReply(t, deskOf(3, base), deskReply{"take " + textOf(n, base), textOf(n, base), d})
			for _, line := range plainLines {
				if i%7 == 0 {
					checkLine(t, d, line)
				}
			}
		}
	}
}

func TestScriptsDoWhatTheirLinesDo(t *testing.T) {
	lines := linesToTry()
	var known []string
	for _, line := range lines {
		if _, reply := answerTo(decimal(7), line); reply != "what" {
			known = append(known, line)
		}
	}
	few, many := 0, 0
	for seed := range uint64(400) {
		for _, from := range [][]string{lines, known, plainLines} {
			s := scriptOf(chosenLines(seed, int(seed)%(mostLines+1), from)...)
			checkScript(t, s)
			_, _, failed := answersTo(s)
			few += min(1, len(failed))
			many += strings.Count(s, "\n") - len(failed)
		}
	}
	if few == 0 || many == 0 {
		t.Error("scripts", few, many)
	}
}

// A script is the same as its lines, each on the desk behind the one before.
func TestScriptsGoLineByLine(t *testing.T) {
	for seed := range uint64(100) {
		lines := chosenLines(seed, mostLines, linesToTry())
		desk := impl.FirstDesk()
		var want []string
		for i, line := range lines {
			behind, reply, ok := impl.DeskLine(desk, line)
			if !ok {
				t.Fatalf("%q on %v", line, desk)
			}
			desk = behind
			want = append(want, reply)
			s := scriptOf(lines[:i+1]...)
			if after, ok := impl.DeskAfter(s); !ok || after != desk {
				t.Fatalf("DeskAfter %q: %v %v, want %v", s, after, ok, desk)
			}
		}
		replies, ok := impl.RunScript(scriptOf(lines...))
		if !ok || !slices.Equal(replies, want) {
			t.Fatalf("RunScript %q: %q %v, want %q", lines, replies, ok, want)
		}
	}
}

// Scripts of steps come to 1 as StepsTo tells, and scripts of powers go through the run.
func TestScriptsOfTheSameLine(t *testing.T) {
	for _, n := range []int{1, 2, 3, 7, 9, 12, 25, 33, 47, 1000} {
		steps := []string{"take " + strconv.Itoa(n)}
		for count := 0; count < 48; count++ {
			desk, ok := impl.DeskAfter(scriptOf(steps...))
			want, wok := impl.StepsTo(n)
			left, lok := impl.StepsTo(desk.Number)
			if !ok || !wok || !lok || count <= want && left != want-count {
				t.Fatalf("%d steps from %d: %v, %d steps left of %d", count, n, desk, left, want)
			}
			steps = append(steps, "step")
		}
		for k := 1; k <= 4; k++ {
			run, _ := impl.PowerRun(n, 10, k)
			if len(run) > mostLines {
				t.Fatal(n, k, run)
			}
			replies, ok := impl.RunScript(scriptOf(append([]string{"take " + strconv.Itoa(n)}, slices.Repeat([]string{"power " + strconv.Itoa(k)}, len(run)-1)...)...))
			if !ok || strings.Join(replies, ",") != printed(run) {
				t.Fatalf("powers %d from %d: %q, want %v", k, n, replies, run)
			}
		}
	}
}
