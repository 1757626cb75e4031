package tests

import (
	"math"
	"math/rand/v2"
	"slices"
	"strings"
	"testing"

	"loop.example/g01151/impl"
)

// Promise 11, for the console.

// noScripts returns texts that have too many lines, too many bytes or no newline at their end, some of them with more than one of these.
func noScripts() []string {
	return []string{
		"show", "\nshow", "show\nshow", "x", " ", "\x00", "\xff", "\r", "\n\r", "\n ",
		strings.Repeat("\n", mostLines+1), strings.Repeat("show\n", mostLines+1), strings.Repeat("\n", mostLines) + "x",
		strings.Repeat("\n", mostScript), strings.Repeat("\n", mostScript+1), strings.Repeat("\n", 100000),
		strings.Repeat("x", mostScript), strings.Repeat("x", mostScript) + "\n", strings.Repeat("x", 100000) + "\n", strings.Repeat("x", 100000),
		strings.Repeat(" ", mostScript) + "\n", strings.Repeat("\xff", mostScript) + "\n", "show\n" + strings.Repeat("1", mostScript-5) + "\n",
	}
}

func TestDesksThatAreNone(t *testing.T) {
	for _, base := range slices.Concat(bases, noBases) {
		for _, n := range noNumbers {
			checkNoDesk(t, deskOf(n, base))
		}
	}
	for _, base := range noBases {
		for _, n := range []int{0, 1, 7, 10, limit, base} {
			checkNoDesk(t, deskOf(n, base))
		}
	}
	checkNoDesk(t, impl.Desk{})
}

func TestLinesOnDesksThatAreNone(t *testing.T) {
	for _, d := range []impl.Desk{{}, deskOf(7, 0), deskOf(7, 1), deskOf(7, 17), deskOf(-1, 10), deskOf(limit+1, 10), deskOf(math.MinInt, 2), deskOf(math.MaxInt, 16), deskOf(7, math.MinInt)} {
		for _, line := range linesToTry() {
			checkNoLine(t, d, line)
		}
	}
}

func TestTextsThatAreNoScripts(t *testing.T) {
	for _, s := range noScripts() {
		if isScriptOf(s) {
			t.Fatalf("%q is a script", s)
		}
		checkNoScript(t, s)
	}
}

func TestLinesThatAreTooLong(t *testing.T) {
	for _, d := range desksToTry() {
		for _, length := range []int{mostScript + 1, 100000} {
			for _, letter := range []string{"x", " ", "1", "\xff", "\n", "\x00"} {
				checkNoLine(t, d, strings.Repeat(letter, length))
			}
			checkNoLine(t, d, "show"+strings.Repeat(" ", length-4))
		}
	}
}

// Bytes are chosen so that some of them make lines and scripts, always the same ones.
func TestAnyBytes(t *testing.T) {
	parts := []string{"\n", "\n", "\n", "\n", " ", " ", "show", "take", "base", "power", "word", "number", "next", "own", "run", "0", "1", "10", "2", "16", "a", "f", "x", "-", "\xff", "\x00", "\r", "é"}
	choice := rand.New(rand.NewPCG(11, 10))
	scripts := 0
	for range 20000 {
		var text strings.Builder
		for range choice.IntN(40) {
			text.WriteString(parts[choice.IntN(len(parts))])
		}
		s := text.String()
		for _, d := range []impl.Desk{impl.FirstDesk(), deskOf(1200, 16), deskOf(0, 2)} {
			if strings.Contains(s, "\n") {
				checkNoLine(t, d, s)
			} else {
				checkLine(t, d, s)
			}
		}
		if !isScriptOf(s) {
			checkNoScript(t, s)
		} else {
			checkScript(t, s)
			scripts++
		}
	}
	if scripts == 0 {
		t.Error("no scripts")
	}
}

// No state is kept: a script begins at the first desk, whatever was executed before.
func TestCallsDoNotDependOnOthers(t *testing.T) {
	scripts := []string{"", "show\n", "take 12\nbase 3\nreverse\nfly\n", "base 16\ntake ff\nown 2\n", "next\nnext\nsteps\n", "fly"}
	for _, first := range scripts {
		for _, second := range scripts {
			impl.RunScript(first)
			impl.DeskAfter(first)
			impl.FailedLines(first)
			impl.DeskLine(impl.FirstDesk(), "take 99")
			if isScriptOf(second) {
				checkScript(t, second)
			} else {
				checkNoScript(t, second)
			}
		}
	}
	if impl.FirstDesk() != decimal(7) {
		t.Error(impl.FirstDesk())
	}
}

func TestResultsOfScriptsAreNew(t *testing.T) {
	s := scriptOf("fly", "take 12", "own 7", "digits", "", "run 2")
	replies, _ := impl.RunScript(s)
	failed, _ := impl.FailedLines(s)
	again, _ := impl.RunScript(s)
	failedAgain, _ := impl.FailedLines(s)
	for i := range replies {
		replies[i] = "changed"
	}
	fill(failed)
	want, desk, wantFailed := answersTo(s)
	if !slices.Equal(again, want) || !slices.Equal(failedAgain, wantFailed) {
		t.Error("results share memory", again, failedAgain)
	}
	checkScriptIs(t, s, want, desk, wantFailed)
}

// The desk that is given is a value: the caller's one stays as it is.
func TestDesksStayAsTheyAre(t *testing.T) {
	for _, d := range desksToTry() {
		before := d
		for _, line := range []string{"take 1", "base 3", "next", "step", "show", "fly", "a\nb"} {
			impl.DeskLine(d, line)
			impl.IsDesk(d)
		}
		if d != before {
			t.Fatal(d, before)
		}
	}
}
