package tests

import (
	"fmt"
	"slices"
	"strconv"
	"strings"
	"testing"

	"loop.example/g01315/impl"
)

// scriptOf returns the script of some lines.
func scriptOf(lines ...string) string {
	script := ""
	for _, line := range lines {
		script += line + "\n"
	}
	return script
}

// checkScript holds a script of some lines against the calls that they name, and against the desk line by line.
func checkScript(t *testing.T, lines ...string) {
	t.Helper()
	script := scriptOf(lines...)
	want, d := impl.FirstDesk(), impl.FirstDesk()
	var replies, each []string
	var failed []int
	for k, line := range lines {
		var reply, own string
		var ok bool
		want, reply = deskLine(want, line)
		replies = append(replies, reply)
		if reply == "no" || reply == "what" {
			failed = append(failed, k+1)
		}
		if d, own, ok = impl.DeskLine(d, line); !ok {
			t.Errorf("DeskLine fails behind %v of %q: %q", d, script, line)
		}
		each = append(each, own)
	}
	wantTexts(t, fmt.Sprintf("DeskLine by DeskLine %q", script), each, true, replies...)
	wantDesk(t, fmt.Sprintf("DeskLine by DeskLine %q", script), d, true, want)
	wantScript(t, script, want, failed, replies...)
}

// wantScript requires of each function of a script what is told of it.
func wantScript(t *testing.T, script string, want impl.Desk, failed []int, replies ...string) {
	t.Helper()
	what := fmt.Sprintf(" of %q", script)
	got, ok := impl.RunScript(script)
	wantTexts(t, "RunScript"+what, got, ok, replies...)
	d, ok := impl.DeskAfter(script)
	wantDesk(t, "DeskAfter"+what, d, ok, want)
	if !impl.IsDesk(d) {
		t.Error("no desk:", d, what)
	}
	numbers, ok := impl.FailedLines(script)
	wantList(t, "FailedLines"+what, numbers, ok, failed...)
}

// TestConsoleExample has the chapter's example, with the desk behind it and with the lines that fail.
func TestConsoleExample(t *testing.T) {
	lines := []string{"chains", "swaps", "own", "next", "type", "none 4", "hits", "first", "go", "coats 0,1,2", "go", "go", "times", "twice", "allow 0 0", "rooks", "seat 3 1", "long 4 2", "coats 0,0", "fly"}
	replies := []string{"0,1,2 3", "0,2 1,2", "3", "1,2,3,0", "4", "9", "1,0,3,2", "2,0,1", "no", "0,1,2", "2,0,1", "no", "3", "1,2,0", ".#./.##/#.#", "1,5,6,1", "3/2", "5/12", "what", "what"}
	wantScript(t, scriptOf(lines...), impl.Desk{Coats: []int{1, 2, 0}, Board: ".#./.##/#.#"}, []int{9, 12, 19, 20}, replies...)
	checkScript(t, lines...)
}

// toldScript is a script with its replies, the desk behind and the lines that fail.
type toldScript struct {
	lines   string
	replies string
	coats   string
	board   string
	failed  []int
}

// scriptsWrittenOut have lines and replies with newlines between them.
var scriptsWrittenOut = []toldScript{
	{"show", "1,2,0,3", "1,2,0,3", "##./.##/#.#", nil},
	{"", "what", "1,2,0,3", "##./.##/#.#", []int{1}},
	{"\n", "what\nwhat", "1,2,0,3", "##./.##/#.#", []int{1, 2}},
	{"show\n\nshow\n\n", "1,2,0,3\nwhat\n1,2,0,3\nwhat\nwhat", "1,2,0,3", "##./.##/#.#", []int{2, 4, 5}},
	{"swap 0 1\nshow\nswap 0 4\nshow\nswap 0 x\nshow\nback\ntwice\nback", "2,1,0,3\n2,1,0,3\nno\n2,1,0,3\nwhat\n2,1,0,3\n2,1,0,3\n0,1,2,3\n0,1,2,3", "0,1,2,3", "##./.##/#.#", []int{3, 5}},
	{"board .\nplaces\nallow 0 0\nforbid 0 0\nforbid 0 0\nplaces\nallow 0 0\nallow 0 1\nboard\nboard #./.#\nforbid 1 0\nforbid 2 0\nplaces", ".\n.\nno\n#\nno\n#\n.\nno\nwhat\n#./.#\n#./##\nno\n#./##", "1,2,0,3", "#./##", []int{3, 5, 8, 9, 12}},
	{"coats 0\nown\nchains\nswaps\ntype\ntimes\nnext\nback\ntwice\ngo\nswap 0 0\nboard .\ngo\nfirst", "0\n0\n0\n-\n1\n1\nno\n0\n0\nno\nno\n.\nno\n0", "0", ".", []int{7, 10, 11, 13}},
	{"coats 0,1,2,3\nnext\nnext\nnext\nnext\nnext\nnext\nnext\nnext\nnext\nnext\nshow", "0,1,2,3\n1,0,3,2\n1,2,3,0\n1,3,0,2\n2,0,3,1\n2,3,0,1\n2,3,1,0\n3,0,1,2\n3,2,0,1\n3,2,1,0\nno\n3,2,1,0", "3,2,1,0", "##./.##/#.#", []int{11}},
	{"board ##./.##/#.#\nallow 0 0\ncoats 0,1,2\ngo\nallow 2 2\ncoats 0,1,2\ngo\ngo\ngo\nfirst\nhits\nown", "##./.##/#.#\n.#./.##/#.#\n0,1,2\n2,0,1\n.#./.##/#..\n0,1,2\n2,0,1\nno\nno\n2,0,1\n1,3,1,1\n-", "2,0,1", ".#./.##/#..", []int{8, 9}},
	{"board #./#.\nfirst\nrooks\nhits\ncoats 0,1\ngo\nallow 1 0\nfirst\ngo\ngo", "#./#.\nno\n1,2,0\n0,2,0\n0,1\nno\n#./..\n1,0\n1,0\nno", "1,0", "#./..", []int{2, 6, 10}},
	{"none 12\nwith 12 2\nseat 12 3\nlong 12 3\nnone 13\nwith 3 4\nseat 3 4\nlong 3 4\nnone 013\nnone\nnone 1 1\nshow", "176214841\n88107426\n50269/9240\n29257/2217600\nno\nno\nno\nno\nwhat\nwhat\nwhat\n1,2,0,3", "1,2,0,3", "##./.##/#.#", []int{5, 6, 7, 8, 9, 10, 11}},
	{" show\nshow \nSHOW\nShow\nshow show\nshow\t\nshow\r\nshow", "what\nwhat\nwhat\nwhat\nwhat\nwhat\nwhat\n1,2,0,3", "1,2,0,3", "##./.##/#.#", []int{1, 2, 3, 4, 5, 6, 7}},
}

func TestScriptsWrittenOut(t *testing.T) {
	for _, c := range scriptsWrittenOut {
		wantScript(t, c.lines+"\n", impl.Desk{Coats: listOf(c.coats), Board: c.board}, c.failed, strings.Split(c.replies, "\n")...)
		checkScript(t, strings.Split(c.lines, "\n")...)
	}
}

// TestEmptyScript has no line and so no reply, and the desk is the first one.
func TestEmptyScript(t *testing.T) {
	wantScript(t, "", impl.Desk{Coats: []int{1, 2, 0, 3}, Board: "##./.##/#.#"}, nil)
}

// mixedLine returns a line of the table with any words, now and then with one that is none, with one more, or without one.
func mixedLine(next func(int) int) string {
	names := append(lineNames(), "coats", "board", "go", "go", "next", "swap", "twice", "forbid", "allow", "allow")
	name := names[next(len(names))]
	words := []string{name}
	for _, kind := range tableLines[name].words {
		switch kind {
		case 'E':
			lists := deskExchanges()
			words = append(words, textOf(lists[next(len(lists))]))
		case 'B':
			boards := deskBoards()
			words = append(words, boards[next(len(boards))])
		default:
			words = append(words, strconv.Itoa(next(5+9*next(2))))
		}
	}
	switch next(40) {
	case 0:
		words = append(words, "")
	case 1:
		words = words[1:]
	case 2:
		words[len(words)-1] += "0"
	case 3:
		words[len(words)-1] = "00"
	case 4:
		words[0] = "no"
	}
	return strings.Join(words, " ")
}

// TestMixedScripts has scripts of any lines, of each number of lines.
func TestMixedScripts(t *testing.T) {
	for lines := range 51 {
		for seed := range 12 {
			next := mixer(seed*51 + lines)
			var all []string
			for range lines {
				all = append(all, mixedLine(next))
			}
			if len(scriptOf(all...)) <= 3000 {
				checkScript(t, all...)
			}
		}
	}
}

// TestGoodLinesBehindEachOther has each two lines of the table behind each other on one desk, and the first one told again behind both.
func TestGoodLinesBehindEachOther(t *testing.T) {
	for _, first := range goodLines {
		for _, second := range goodLines {
			checkScript(t, "coats 0,1,2", first, second, "show", "places", first, "no such line", second)
		}
	}
}

// TestNextComesToAll goes through all exchanges without own coats, and go through all that a board allows.
func TestNextComesToAll(t *testing.T) {
	for n := 1; n <= 5; n++ {
		d := impl.Desk{Coats: inOrder(n), Board: boardWhere(n, nowhere)}
		for _, want := range nonesAmong(exchangesOf(n)) {
			behind, reply, ok := impl.DeskLine(d, "next")
			wantText(t, fmt.Sprint("next behind ", d), reply, ok, textOf(want))
			wantDesk(t, fmt.Sprint("next behind ", d), behind, ok, impl.Desk{Coats: want, Board: d.Board})
			d = behind
		}
		behind, reply, ok := impl.DeskLine(d, "next")
		wantText(t, fmt.Sprint("next behind ", d), reply, ok, "no")
		wantDesk(t, fmt.Sprint("next behind ", d), behind, ok, d)
	}
}

// TestGoComesToAll begins with the first exchange, which go leaves even where it is allowed.
func TestGoComesToAll(t *testing.T) {
	for _, b := range append(greaterBoards(1, 2, 3, 4), "##./.##/#.#") {
		d := impl.Desk{Coats: inOrder(sideOf(b)), Board: b}
		for _, want := range allowedAmong(b, exchangesOf(sideOf(b))) {
			if slices.Equal(want, d.Coats) {
				continue
			}
			behind, reply, ok := impl.DeskLine(d, "go")
			wantText(t, fmt.Sprint("go behind ", d), reply, ok, textOf(want))
			wantDesk(t, fmt.Sprint("go behind ", d), behind, ok, impl.Desk{Coats: want, Board: b})
			d = behind
		}
		behind, reply, ok := impl.DeskLine(d, "go")
		wantText(t, fmt.Sprint("go behind ", d), reply, ok, "no")
		wantDesk(t, fmt.Sprint("go behind ", d), behind, ok, d)
	}
}

// TestNumbersOfLines has scripts of up to the greatest number of lines, of which all, none, or each third one fails.
func TestNumbersOfLines(t *testing.T) {
	for lines := range 51 {
		for _, line := range []string{"", "show", "no such line", "swap 0 0", "swap 0 1", "back", "next"} {
			checkScript(t, slices.Repeat([]string{line}, lines)...)
		}
		thirds := slices.Repeat([]string{"twice"}, lines)
		for k := 2; k < lines; k += 3 {
			thirds[k] = "forbid 0 0"
		}
		checkScript(t, thirds...)
	}
}

// TestBytesOfScripts has scripts of just as many bytes as there may be: in one line, in all lines alike, and in the last one of some.
func TestBytesOfScripts(t *testing.T) {
	wantScript(t, strings.Repeat("x", 2999)+"\n", impl.FirstDesk(), []int{1}, "what")
	wantScript(t, "back\nown\n"+strings.Repeat(" ", 2990)+"\n", impl.Desk{Coats: []int{2, 0, 1, 3}, Board: "##./.##/#.#"}, []int{3}, "2,0,1,3", "3", "what")
	wantScript(t, strings.Repeat("x", 2990)+"\nback\nown\n", impl.Desk{Coats: []int{2, 0, 1, 3}, Board: "##./.##/#.#"}, []int{1}, "what", "2,0,1,3", "3")
	checkScript(t, slices.Repeat([]string{strings.Repeat("y", 59)}, 50)...)
	checkScript(t, append(slices.Repeat([]string{"back"}, 49), strings.Repeat("z", 3000-49*5-1))...)
	// No line with an effect is longer than that which sets the greatest board.
	greatest := "board " + boardWhere(8, everywhere)
	checkScript(t, append(slices.Repeat([]string{greatest}, 38), strings.Repeat("a", 3000-38*78-1))...)
}
