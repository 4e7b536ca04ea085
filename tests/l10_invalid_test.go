package tests

import (
	"fmt"
	"slices"
	"strings"
	"testing"

	"loop.example/g01315/impl"
)

// noScript requires of each function of a script that it fails.
func noScript(t *testing.T, text string) {
	t.Helper()
	what := fmt.Sprintf(" of %.80q with %d bytes", text, len(text))
	replies, ok := impl.RunScript(text)
	wantNothing(t, "RunScript"+what, replies, ok)
	d, ok := impl.DeskAfter(text)
	wantNothing(t, "DeskAfter"+what, d, ok)
	failed, ok := impl.FailedLines(text)
	wantNothing(t, "FailedLines"+what, failed, ok)
}

// noScripts are texts that are no scripts: without a newline behind the last line, with too many lines, or with too many bytes.
func noScripts() []string {
	all := []string{
		"own", " ", "x", "\x00", "\r", "-", "own\nown", "own\n\nown", "\nown", "\n ", "\n\x00", "own\n ", "own\n\r", "own\r", "own\r\nown", "own\nown\n\t", "fly", "swap 0 0", "1,2,0,3", "##./.##/#.#",
		strings.Repeat("\n", 51), strings.Repeat("\n", 52), strings.Repeat("\n", 3000), strings.Repeat("\n", 50) + "x", strings.Repeat("own\n", 51), strings.Repeat("own\n", 50) + "own", strings.Repeat("own\n", 50) + "\n", "\n" + strings.Repeat("own\n", 50), strings.Repeat("own\n", 750),
		strings.Repeat("x", 3000) + "\n", strings.Repeat("x", 3000), strings.Repeat("x", 2999), strings.Repeat("x", 2999) + "\n\n", "\n" + strings.Repeat("x", 2999) + "\n", "own\n" + strings.Repeat(" ", 2996) + "\n", strings.Repeat(" ", 3000) + "\n", strings.Repeat("own\n", 751), strings.Repeat("x", 1<<16), strings.Repeat("x", 1<<16) + "\n", strings.Repeat("\n", 1<<16), strings.Repeat("own\n", 1<<14),
		strings.Repeat(strings.Repeat("y", 59)+"\n", 50) + "\n", strings.Repeat(strings.Repeat("y", 60)+"\n", 50),
	}
	for _, line := range goodLines {
		all = append(all, line, "own\n"+line, scriptOf(slices.Repeat([]string{line}, 51)...), scriptOf(slices.Repeat([]string{line}, 50)...)+line)
	}
	return all
}

func TestTextsThatAreNoScripts(t *testing.T) {
	for _, text := range noScripts() {
		noScript(t, text)
	}
}

// TestLimitsOfScripts has each number of bytes and of lines around the limits: just those up to them are scripts.
func TestLimitsOfScripts(t *testing.T) {
	for bytes := 2990; bytes <= 3010; bytes++ {
		for _, lines := range []int{1, 2, 49, 50, 51} {
			text := strings.Repeat("\n", lines-1) + strings.Repeat("x", bytes-lines) + "\n"
			is := bytes <= 3000 && lines <= 50
			wantOnly(t, fmt.Sprint("RunScript of bytes and lines ", bytes, lines), is, results(impl.RunScript(text))...)
			wantOnly(t, fmt.Sprint("DeskAfter of bytes and lines ", bytes, lines), is, results(impl.DeskAfter(text))...)
			wantOnly(t, fmt.Sprint("FailedLines of bytes and lines ", bytes, lines), is, results(impl.FailedLines(text))...)
			noScript(t, text[:len(text)-1]+"x")
		}
	}
}

// noDesks are desks that are none: Coats that are no exchange, a Board that is none, or both.
func noDesks() []impl.Desk {
	var all []impl.Desk
	for _, list := range noExchanges {
		for _, b := range []string{".", "#", "##./.##/#.#", boardWhere(8, nowhere), "", "./"} {
			all = append(all, impl.Desk{Coats: list, Board: b})
		}
	}
	for _, b := range noBoards() {
		for _, list := range [][]int{{0}, {1, 0}, {1, 2, 0, 3}, backwards(8), inOrder(12)} {
			all = append(all, impl.Desk{Coats: list, Board: b})
		}
	}
	return all
}

func TestDesksThatAreNone(t *testing.T) {
	for _, d := range noDesks() {
		what := fmt.Sprintf("%v %.80q", d.Coats, d.Board)
		if impl.IsDesk(d) {
			t.Error("a desk:", what)
		}
		// Not even those lines succeed that would set what is wrong, nor those that are none.
		for _, line := range append([]string{"", "fly", "coats 1,2,0,3", "board ##./.##/#.#"}, goodLines...) {
			after, reply, ok := impl.DeskLine(d, line)
			wantNothing(t, "DeskLine "+what+" "+line, after, reply, ok)
		}
	}
}

// TestTextsThatAreNoLines has newlines at any place, and too many bytes.
func TestTextsThatAreNoLines(t *testing.T) {
	lines := []string{"\n", "\n\n", " \n", "\n ", "own\n\n", "\n\nown", "own\nown", "own\r\n", "own\nown\n", strings.Repeat("\n", 3000), strings.Repeat("\n", 3001), strings.Repeat("x", 2999) + "\n", strings.Repeat("x", 3001), strings.Repeat(" ", 3001), strings.Repeat("own ", 751), strings.Repeat("x", 1<<16), "own" + strings.Repeat(" ", 2998)}
	for _, line := range goodLines {
		for at := range len(line) + 1 {
			lines = append(lines, line[:at]+"\n"+line[at:])
		}
	}
	for _, d := range []impl.Desk{impl.FirstDesk(), goodDesk, {Coats: []int{0}, Board: "."}} {
		for _, line := range lines {
			after, reply, ok := impl.DeskLine(d, line)
			wantNothing(t, fmt.Sprintf("DeskLine %v %.80q", d, line), after, reply, ok)
		}
	}
}

// TestLimitOfLines has each number of bytes of a line around the limit, one more than a line of a script may have.
func TestLimitOfLines(t *testing.T) {
	for bytes := 2990; bytes <= 3010; bytes++ {
		for _, sign := range []string{"x", " ", "0", "\r", "\x00", "\xff"} {
			wantOnly(t, fmt.Sprintf("DeskLine of %d times %q", bytes, sign), bytes <= 3000, results(impl.DeskLine(goodDesk, strings.Repeat(sign, bytes)))...)
		}
	}
}
