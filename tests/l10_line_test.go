package tests

import (
	"fmt"
	"slices"
	"strings"
	"testing"

	"loop.example/g01315/impl"
)

// toldLines are lines on a desk with their replies behind ` > `, all of them written out.
type toldLines struct {
	coats   string
	board   string
	replies []string
}

// linesWrittenOut have each line of the table with its ordinary and its extreme numbers and desks: one guest alone, the most guests, no own coat,
// no swap, one chain, boards on which all or nothing is forbidden, of one place, and of other sides than the exchange.
var linesWrittenOut = []toldLines{
	{"1,2,0,3", "##./.##/#.#", []string{
		"coats 0 > 0", "coats 0,1,2 > 0,1,2", "coats 11,10,9,8,7,6,5,4,3,2,1,0 > 11,10,9,8,7,6,5,4,3,2,1,0", "coats 1,2,0,3 > 1,2,0,3",
		"board . > .", "board # > #", "board ########/########/########/########/########/########/########/######## > ########/########/########/########/########/########/########/########", "board ##./.##/#.# > ##./.##/#.#", "board ./ > what",
		"swap 0 1 > 2,1,0,3", "swap 3 0 > 3,2,0,1", "swap 0 0 > no", "swap 0 4 > no", "swap 4 0 > no", "swap 0 999999 > no", "swap 1000000 0 > what",
		"back > 2,0,1,3",
		"twice > 2,0,1,3",
		"next > 1,2,3,0",
		"go > no",
		"forbid 0 2 > ###/.##/#.#", "forbid 1 0 > ##./###/#.#", "forbid 0 0 > no", "forbid 3 0 > no", "forbid 0 3 > no",
		"allow 0 0 > .#./.##/#.#", "allow 2 0 > ##./.##/..#", "allow 0 2 > no", "allow 3 3 > no",
		"show > 1,2,0,3",
		"places > ##./.##/#.#",
		"own > 3",
		"chains > 0,1,2 3",
		"swaps > 0,2 1,2",
		"type > 3,1",
		"times > 3",
		"none 1 > 0", "none 2 > 1", "none 4 > 9", "none 12 > 176214841", "none 0 > no", "none 13 > no", "none 999999 > no", "none 1000000 > what",
		"with 4 1 > 8", "with 4 0 > 9", "with 4 4 > 1", "with 4 3 > 0", "with 4 5 > no", "with 0 0 > no", "with 1 0 > 0", "with 1 1 > 1", "with 12 0 > 176214841", "with 12 12 > 1", "with 12 1 > 176214840", "with 12 13 > no", "with 13 0 > no", "with 999999 999999 > no",
		"rooks > 1,6,9,2",
		"hits > 1,0,3,2",
		"first > 2,0,1",
		"seat 3 1 > 3/2", "seat 3 0 > 3/1", "seat 3 3 > 1/1", "seat 3 4 > no", "seat 1 0 > 1/1", "seat 1 1 > 1/1", "seat 0 0 > no", "seat 12 0 > 12/1", "seat 12 1 > 248929/27720", "seat 12 6 > 11923/4620", "seat 12 12 > 1/1", "seat 12 13 > no", "seat 13 1 > no", "seat 30 1 > no", "seat 4 2 > 4/3", "seat 999999 0 > no",
		"long 4 2 > 5/12", "long 4 4 > 1/1", "long 4 0 > 0/1", "long 4 1 > 1/24", "long 4 5 > no", "long 1 0 > 0/1", "long 1 1 > 1/1", "long 0 0 > no", "long 12 0 > 0/1", "long 12 1 > 1/479001600", "long 12 6 > 9613/27720", "long 12 12 > 1/1", "long 12 13 > no", "long 13 1 > no", "long 0 999999 > no",
	}},
	{"0", "##./.##/#.#", []string{
		"swap 0 0 > no", "swap 0 1 > no",
		"back > 0",
		"twice > 0",
		"next > no",
		"go > no",
		"show > 0",
		"own > 0",
		"chains > 0",
		"swaps > -",
		"type > 1",
		"times > 1",
	}},
	{"11,10,9,8,7,6,5,4,3,2,1,0", "##./.##/#.#", []string{
		"swap 11 0 > 0,10,9,8,7,6,5,4,3,2,1,11", "swap 11 10 > 11,10,9,8,7,6,5,4,3,2,0,1", "swap 0 12 > no",
		"next > no",
		"show > 11,10,9,8,7,6,5,4,3,2,1,0",
		"chains > 0,11 1,10 2,9 3,8 4,7 5,6",
		"swaps > 0,11 1,10 2,9 3,8 4,7 5,6",
		"type > 2,2,2,2,2,2",
	}},
	{"1,2,3,4,5,6,7,8,9,10,11,0", "##./.##/#.#", []string{
		"back > 11,0,1,2,3,4,5,6,7,8,9,10",
		"twice > 2,3,4,5,6,7,8,9,10,11,0,1",
		"next > 1,2,3,4,5,6,7,8,9,11,0,10",
		"chains > 0,1,2,3,4,5,6,7,8,9,10,11",
		"swaps > 0,11 1,11 2,11 3,11 4,11 5,11 6,11 7,11 8,11 9,11 10,11",
		"type > 12",
		"times > 12",
	}},
	{"2,0,1,4,3", "##./.##/#.#", []string{"back > 1,2,0,4,3"}},
	{"1,0", "##./.##/#.#", []string{"twice > 0,1", "next > no", "own > -", "swaps > 0,1"}},
	{"1,2,3,0,4", "##./.##/#.#", []string{"twice > 2,3,0,1,4"}},
	{"0,1", "##./.##/#.#", []string{"next > 1,0"}},
	{"3,2,1,0", "##./.##/#.#", []string{"next > no"}},
	{"3,2,0,1", "##./.##/#.#", []string{"next > 3,2,1,0"}},
	{"2,3,1,0", "##./.##/#.#", []string{"next > 3,0,1,2"}},
	{"0,2,1,3", "##./.##/#.#", []string{"next > 1,0,3,2", "own > 0,3"}},
	{"0,1,2,3,4,5,6,7,8,9,10,11", "##./.##/#.#", []string{"next > 1,0,3,2,5,4,7,6,9,8,11,10", "own > 0,1,2,3,4,5,6,7,8,9,10,11"}},
	{"0,1,2", "##./.##/#.#", []string{
		"go > 2,0,1",
		"chains > 0 1 2",
		"swaps > -",
		"type > 1,1,1",
		"times > 1",
	}},
	{"2,0,1", "##./.##/#.#", []string{"go > no"}},
	{"2,1,0", "##./.##/#.#", []string{"go > no"}},
	{"1,2,0,3", "#.../.#../..#./...#", []string{"go > 1,2,3,0", "rooks > 1,4,6,4,1", "hits > 9,8,6,0,1", "first > 1,0,3,2"}},
	{"3,2,1,0", "#.../.#../..#./...#", []string{"go > no"}},
	{"0", ".", []string{"go > no", "forbid 0 0 > #", "allow 0 0 > no"}},
	{"0", "#", []string{"go > no", "forbid 0 0 > no", "allow 0 0 > ."}},
	{"0,1", "../..", []string{"go > 1,0"}},
	{"1,0", "../..", []string{"go > no"}},
	{"0,1,2,3,4", "##.../.##../..##./...##/#...#", []string{"go > 2,0,4,1,3"}},
	{"2,3,4,1,0", "##.../.##../..##./...##/#...#", []string{"go > 2,4,0,1,3"}},
	{"4,3,1,0,2", "##.../.##../..##./...##/#...#", []string{"go > no"}},
	{"0,1,2,3,4,5,6,7", boardWhere(8, nowhere), []string{"go > 0,1,2,3,4,5,7,6"}},
	{"7,6,5,4,3,2,1,0", boardWhere(8, nowhere), []string{"go > no"}},
	{"0,1,2,3,4,5,6,7", boardWhere(8, everywhere), []string{"go > no"}},
	{"11,10,9,8,7,6,5,4,3,2,1,0", boardWhere(8, nowhere), []string{"go > no"}},
	{"0,1,2,3,4,5,6,7,8", boardWhere(8, nowhere), []string{"go > no"}},
	{"1,2,0,3", boardWhere(8, nowhere), []string{
		"forbid 7 7 > ......../......../......../......../......../......../......../.......#", "forbid 7 8 > no", "forbid 999999 999999 > no",
		"rooks > 1,0,0,0,0,0,0,0,0",
		"hits > 40320,0,0,0,0,0,0,0,0",
		"first > 0,1,2,3,4,5,6,7",
	}},
	{"1,2,0,3", boardWhere(8, everywhere), []string{
		"allow 7 0 > ########/########/########/########/########/########/########/.#######", "allow 8 0 > no",
		"places > ########/########/########/########/########/########/########/########",
		"rooks > 1,64,1568,18816,117600,376320,564480,322560,40320",
		"hits > 0,0,0,0,0,0,0,0,40320",
		"first > no",
	}},
	{"1,2,0,3", ".", []string{"places > .", "rooks > 1,0", "hits > 1,0", "first > 0"}},
	{"1,2,0,4,5,6,3,8,9,10,11,7", "##./.##/#.#", []string{"chains > 0,1,2 3,4,5,6 7,8,9,10,11", "type > 5,4,3", "times > 60"}},
	{"3,0,1,2,5,4", "##./.##/#.#", []string{"swaps > 0,1 1,2 2,3 4,5"}},
	{"1,0,2", "##./.##/#.#", []string{"type > 2,1"}},
	{"1,0,3,4,2", "##./.##/#.#", []string{"times > 6"}},
	{"1,2,0,3", "#", []string{"rooks > 1,1", "hits > 0,1", "first > no"}},
	{"1,2,0,3", "#./.#", []string{"rooks > 1,2,1", "hits > 1,0,1", "first > 1,0"}},
	{"1,2,0,3", "##.../.##../..##./...##/#...#", []string{"rooks > 1,10,35,50,25,2", "hits > 13,30,40,20,15,2", "first > 2,0,4,1,3"}},
	{"1,2,0,3", "##/..", []string{"first > no"}},
}

// listOf reads numbers with commas between them that are written out for a test.
func listOf(text string) []int {
	var list []int
	for _, word := range strings.Split(text, ",") {
		number := 0
		for _, digit := range word {
			number = number*10 + int(digit-'0')
		}
		list = append(list, number)
	}
	return list
}

// deskBehind returns the desk behind a line with a reply that is known: that of a line with an effect tells what has changed.
func deskBehind(d impl.Desk, line, reply string) impl.Desk {
	name, _, _ := strings.Cut(line, " ")
	switch {
	case reply == "no" || reply == "what":
	case slices.Contains([]string{"coats", "swap", "back", "twice", "next", "go"}, name):
		d.Coats = listOf(reply)
	case slices.Contains([]string{"board", "forbid", "allow"}, name):
		d.Board = reply
	}
	return d
}

func TestLinesWrittenOut(t *testing.T) {
	for _, told := range linesWrittenOut {
		d := impl.Desk{Coats: listOf(told.coats), Board: told.board}
		for _, c := range told.replies {
			line, want, _ := strings.Cut(c, " > ")
			what := fmt.Sprintf("DeskLine %v %.100q", d, line)
			behind, reply, ok := impl.DeskLine(d, line)
			wantText(t, what, reply, ok, want)
			wantDesk(t, what, behind, ok, deskBehind(d, line, want))
		}
	}
}

// wantWhat requires that a line is none, and that nothing changes.
func wantWhat(t *testing.T, d impl.Desk, line string) {
	t.Helper()
	what := fmt.Sprintf("DeskLine %v %.100q", d, line)
	behind, reply, ok := impl.DeskLine(d, line)
	wantText(t, what, reply, ok, "what")
	wantDesk(t, what, behind, ok, d)
}

// goodLines are one line for each of the table, all of which succeed on goodDesk.
var goodLines = []string{"coats 1,0", "board #./.#", "swap 0 1", "back", "twice", "next", "go", "forbid 0 2", "allow 0 0", "show", "places", "own", "chains", "swaps", "type", "times", "none 4", "with 4 1", "rooks", "hits", "first", "seat 3 1", "long 4 2"}

// goodDesk is a desk with exchange and board of one side, so that no line needs to fail.
var goodDesk = impl.Desk{Coats: []int{0, 1, 2}, Board: "##./.##/#.#"}

func TestGoodLines(t *testing.T) {
	for _, line := range goodLines {
		_, reply, ok := impl.DeskLine(goodDesk, line)
		if !ok || reply == "no" || reply == "what" {
			t.Errorf("DeskLine %q: got %q %v", line, reply, ok)
		}
	}
	if len(goodLines) != len(tableLines) {
		t.Error("good lines:", len(goodLines), "lines of the table:", len(tableLines))
	}
}

// TestWordsOfLines has lines with words more and less, empty ones, capitals, and other signs than blanks between words.
func TestWordsOfLines(t *testing.T) {
	for _, d := range []impl.Desk{goodDesk, {Coats: []int{0}, Board: "#"}, {Coats: backwards(12), Board: boardWhere(8, everywhere)}} {
		for _, line := range goodLines {
			name, behind, more := strings.Cut(line, " ")
			for _, other := range []string{
				line + " ", " " + line, line + "  ", "  " + line, line + " 0", line + " 0 0", line + " x", line + " " + line, "0 " + line, line + "\t", "\t" + line, line + "\r", line + "\x00", line + ".", line + ",", line + ";", "-" + line,
				strings.ToUpper(name) + line[len(name):], strings.ToUpper(name[:1]) + line[1:], name + "s" + line[len(name):], "x" + line, name[1:] + line[len(name):], name[:len(name)-1] + line[len(name):], name + name + line[len(name):], name + "\xff" + line[len(name):], name + "\u00a0" + behind,
			} {
				wantWhat(t, d, other)
			}
			if more {
				last := line[:strings.LastIndex(line, " ")]
				for _, other := range []string{name, name + " ", name + "  ", name + "  " + behind, name + "\t" + behind, name + "," + behind, last, last + " ", last + "  " + line[len(last)+1:]} {
					wantWhat(t, d, other)
				}
			}
		}
	}
}

// TestLinesThatAreNone has lines whose first word no line has, and none at all.
func TestLinesThatAreNone(t *testing.T) {
	for _, line := range []string{
		"", " ", "  ", "   ", "    ", "-", "no", "what", "fly", "0", "4", "1,2,0,3", "0,1,2", "##./.##/#.#", ".", "#", "N", "swap N K", "coats E", "board B", "none N", "?", "help", "\x00", "\xff", "\r", "\t", "desk", "chain", "hit", "rook", "exchange 1,0", "Coats", "Board 0", "1 2", "0 0 0", "x 1 2", "x 1", "fly 0", "fly 0 0", "fly 1,0", "fly .", "own-", "own,chains", "own;chains", "coats1,0", "none4", "swap0 1", "seat3 1",
		"٠", "swap ٠ ١", strings.Repeat(" ", 3000), strings.Repeat("x", 3000), strings.Repeat("own ", 750), "own" + strings.Repeat(" ", 2997), strings.Repeat("0", 3000),
	} {
		wantWhat(t, impl.FirstDesk(), line)
		wantWhat(t, goodDesk, line)
	}
}

// noLineNumbers are words that tell no number in a line.
var noLineNumbers = []string{
	"", "00", "01", "000000", "0000001", "012", "+0", "+1", "-0", "-1", "-999999", "1000000", "1000001", "9999990", "99999999", "4294967296", "4294967297", "9223372036854775807", "9223372036854775808", "18446744073709551616", "18446744073709551617", "99999999999999999999999999",
	"1.0", "1.", ".1", "1e0", "1e3", "0x1", "0b1", "0o1", "1_0", "1,0", "0,1", "1/1", "a", "x", "N", "K", "-", "#", ".", "1a", "a1", "1\t", "\t1", "1\r", "1\x00", "\xff", "٠", "１", "½", "1\u00a0",
}

// TestNumbersThatAreNone has each of these words for each number of each line that has numbers.
func TestNumbersThatAreNone(t *testing.T) {
	for _, d := range []impl.Desk{goodDesk, impl.FirstDesk(), {Coats: inOrder(12), Board: boardWhere(8, everywhere)}} {
		for _, name := range lineNames() {
			for _, word := range noLineNumbers {
				switch tableLines[name].words {
				case "N":
					wantWhat(t, d, name+" "+word)
				case "NN":
					for _, number := range []string{"0", "1", "3", "999999", word} {
						wantWhat(t, d, name+" "+word+" "+number)
						wantWhat(t, d, name+" "+number+" "+word)
					}
				}
			}
		}
	}
}

// TestGreatNumbersInLines has numbers up to the greatest one, for which functions fail, and beyond it, which are none.
func TestGreatNumbersInLines(t *testing.T) {
	for _, name := range lineNames() {
		for number, want := range map[string]string{"13": "no", "99": "no", "100000": "no", "256": "no", "65536": "no", "999998": "no", "999999": "no", "1000000": "what", "1000001": "what", "1048576": "what"} {
			var lines []string
			switch tableLines[name].words {
			case "N":
				lines = []string{name + " " + number}
			case "NN":
				lines = []string{name + " " + number + " 1", name + " 1 " + number, name + " " + number + " " + number}
			}
			for _, line := range lines {
				behind, reply, ok := impl.DeskLine(goodDesk, line)
				wantText(t, "DeskLine "+line, reply, ok, want)
				wantDesk(t, "DeskLine "+line, behind, ok, goodDesk)
			}
		}
	}
}

// TestTextsInLinesThatAreNone has words that tell no exchange and no board.
func TestTextsInLinesThatAreNone(t *testing.T) {
	for _, d := range []impl.Desk{goodDesk, {Coats: []int{0}, Board: "."}} {
		for _, text := range slices.Concat(noTexts, noBoards()) {
			if strings.Contains(text, "\n") || len(text) > 2990 {
				continue
			}
			// Some of those that are no exchanges are boards, and the other way round.
			checkLine(t, d, "coats "+text)
			checkLine(t, d, "board "+text)
			checkLine(t, d, text)
		}
		for _, text := range []string{"", "0,0", "1", "0,2", "0,1,", "01,0", "0, 1", "0,1,2,3,4,5,6,7,8,9,10,11,12", "##./.##/#.#", "."} {
			wantWhat(t, d, "coats "+text)
		}
		for _, text := range []string{"", "/", "..", "./.", "../.", "x", "#./.x", boardWhere(9, nowhere), "1,0", "0"} {
			wantWhat(t, d, "board "+text)
		}
	}
}

// TestOneSignOfLinesChanged has lines with one sign put in, taken out or changed.
func TestOneSignOfLinesChanged(t *testing.T) {
	for _, line := range goodLines {
		for at := range len(line) + 1 {
			for _, sign := range []string{"", " ", "0", "1", "2", "9", ",", "/", ".", "#", "-", "+", "s", "S", "x", "\t", "\r", "\x00", "\xff"} {
				checkLine(t, goodDesk, line[:at]+sign+line[at:])
				if at < len(line) {
					checkLine(t, goodDesk, line[:at]+sign+line[at+1:])
				}
			}
		}
	}
}
