package tests

import (
	"fmt"
	"regexp"
	"slices"
	"strconv"
	"strings"
	"testing"

	"loop.example/g01315/impl"
)

// tableLine is a line of the table of chapter 10.
type tableLine struct {
	words  string // what the words behind the first one are: N for a number, E for an ExchangeText, B for a board
	effect string // what becomes the result of the call: the Coats, the Board, or nothing
	call   func(d impl.Desk, word string, n, k int) (any, bool)
}

// tableLines has for the first word of each line of the table the call that it names.
var tableLines = map[string]tableLine{
	"coats":  {"E", "Coats", func(d impl.Desk, word string, n, k int) (any, bool) { return impl.ParseExchange(word) }},
	"board":  {"B", "Board", func(d impl.Desk, word string, n, k int) (any, bool) { return word, impl.IsBoard(word) }},
	"swap":   {"NN", "Coats", func(d impl.Desk, word string, n, k int) (any, bool) { return impl.SwapCoats(d.Coats, n, k) }},
	"back":   {"", "Coats", func(d impl.Desk, word string, n, k int) (any, bool) { return impl.BackExchange(d.Coats) }},
	"twice":  {"", "Coats", func(d impl.Desk, word string, n, k int) (any, bool) { return impl.ThenExchange(d.Coats, d.Coats) }},
	"next":   {"", "Coats", func(d impl.Desk, word string, n, k int) (any, bool) { return impl.NextNone(d.Coats) }},
	"go":     {"", "Coats", func(d impl.Desk, word string, n, k int) (any, bool) { return impl.NextAllowed(d.Board, d.Coats) }},
	"forbid": {"NN", "Board", func(d impl.Desk, word string, n, k int) (any, bool) { return impl.ForbidPlace(d.Board, n, k) }},
	"allow":  {"NN", "Board", func(d impl.Desk, word string, n, k int) (any, bool) { return impl.AllowPlace(d.Board, n, k) }},
	"show":   {"", "", func(d impl.Desk, word string, n, k int) (any, bool) { return impl.ExchangeText(d.Coats) }},
	"places": {"", "", func(d impl.Desk, word string, n, k int) (any, bool) { return d.Board, true }},
	"own":    {"", "", func(d impl.Desk, word string, n, k int) (any, bool) { return impl.OwnCoats(d.Coats) }},
	"chains": {"", "", func(d impl.Desk, word string, n, k int) (any, bool) { return impl.ChainsOf(d.Coats) }},
	"swaps":  {"", "", func(d impl.Desk, word string, n, k int) (any, bool) { return impl.FirstSwaps(d.Coats) }},
	"type":   {"", "", func(d impl.Desk, word string, n, k int) (any, bool) { return impl.TypeOf(d.Coats) }},
	"times":  {"", "", func(d impl.Desk, word string, n, k int) (any, bool) { return impl.TimesToRight(d.Coats) }},
	"none":   {"N", "", func(d impl.Desk, word string, n, k int) (any, bool) { return impl.CountNone(n) }},
	"with":   {"NN", "", func(d impl.Desk, word string, n, k int) (any, bool) { return impl.CountOwn(n, k) }},
	"rooks":  {"", "", func(d impl.Desk, word string, n, k int) (any, bool) { return impl.RookNumbers(d.Board) }},
	"hits":   {"", "", func(d impl.Desk, word string, n, k int) (any, bool) { return impl.HitNumbers(d.Board) }},
	"first":  {"", "", func(d impl.Desk, word string, n, k int) (any, bool) { return impl.FirstAllowed(d.Board) }},
	"seat":   {"NN", "", func(d impl.Desk, word string, n, k int) (any, bool) { return partText(impl.MeanOwnSeats(n, k)) }},
	"long":   {"NN", "", func(d impl.Desk, word string, n, k int) (any, bool) { return partText(impl.ChanceLongest(n, k)) }},
}

// lineNames are the first words of the lines of the table, in order.
func lineNames() []string {
	var names []string
	for name := range tableLines {
		names = append(names, name)
	}
	slices.Sort(names)
	return names
}

func partText(num, den int, ok bool) (string, bool) {
	return fmt.Sprintf("%d/%d", num, den), ok
}

// replyText tells the result of a call as replies do.
func replyText(result any) string {
	switch r := result.(type) {
	case string:
		return r
	case int:
		return strconv.Itoa(r)
	case []int:
		if len(r) == 0 {
			return "-"
		}
		return strings.Trim(strings.ReplaceAll(fmt.Sprint(r), " ", ","), "[]")
	case [][]int:
		var lists []string
		for _, list := range r {
			lists = append(lists, replyText(list))
		}
		if len(lists) == 0 {
			return "-"
		}
		return strings.Join(lists, " ")
	}
	return "no such result"
}

// lineNumbers tells all numbers in lines.
var lineNumbers = regexp.MustCompile(`\A(0|[1-9][0-9]{0,5})\z`)

// areWords reports whether words are what a line has behind its first one.
func areWords(kinds string, words []string) bool {
	if len(words) != len(kinds) {
		return false
	}
	for k, word := range words {
		is := lineNumbers.MatchString(word)
		switch kinds[k] {
		case 'E':
			_, is = impl.ParseExchange(word)
		case 'B':
			is = impl.IsBoard(word)
		}
		if !is {
			return false
		}
	}
	return true
}

// deskLine returns the desk behind a line and the reply by the table and by the call that the line names.
func deskLine(d impl.Desk, line string) (impl.Desk, string) {
	words := strings.Split(line, " ")
	row, ok := tableLines[words[0]]
	if !ok || !areWords(row.words, words[1:]) {
		return d, "what"
	}
	words = append(words, "", "")
	n, _ := strconv.Atoi(words[1])
	k, _ := strconv.Atoi(words[2])
	result, ok := row.call(d, words[1], n, k)
	if !ok {
		return d, "no"
	}
	switch row.effect {
	case "Coats":
		d.Coats = result.([]int)
	case "Board":
		d.Board = result.(string)
	}
	return d, replyText(result)
}

func wantDesk(t *testing.T, what string, got impl.Desk, ok bool, want impl.Desk) {
	t.Helper()
	if !ok || !slices.Equal(got.Coats, want.Coats) || got.Board != want.Board {
		t.Errorf("%.300s: got %v %v, want %v true", what, got, ok, want)
	}
}

func wantTexts(t *testing.T, what string, got []string, ok bool, want ...string) {
	t.Helper()
	if !ok || !slices.Equal(got, want) {
		t.Errorf("%.300s: got %q %v, want %q true", what, got, ok, want)
	}
}

// checkLine holds a line on a desk against the call that it names, and returns the desk behind.
func checkLine(t *testing.T, d impl.Desk, line string) impl.Desk {
	t.Helper()
	what := fmt.Sprintf("DeskLine %v %.100q", d, line)
	wantBehind, wantReply := deskLine(d, line)
	behind, reply, ok := impl.DeskLine(d, line)
	wantText(t, what, reply, ok, wantReply)
	wantDesk(t, what, behind, ok, wantBehind)
	return wantBehind
}

// deskExchanges are Coats of each number of guests: those who all get their own, none, one and some of them.
func deskExchanges() [][]int {
	lists := append(exchangesUpTo(3), []int{1, 2, 0, 3}, []int{3, 2, 1, 0}, []int{3, 2, 0, 1}, []int{0, 3, 1, 2}, []int{4, 3, 1, 0, 2}, longChains, []int{1, 2, 3, 4, 5, 6, 7, 8, 9, 10, 11, 0})
	for n := 4; n <= 12; n++ {
		lists = append(lists, inOrder(n), backwards(n))
	}
	return lists
}

// deskBoards are boards of each side: all, nothing and own places forbidden, those of couples, and some where the last guest may get nothing.
func deskBoards() []string {
	boards := append(boardsOf(1, 1), boardsOf(2, 3)...)
	for n := 1; n <= 8; n++ {
		boards = append(boards, boardWhere(n, nowhere), boardWhere(n, everywhere), boardWhere(n, func(i, j int) bool { return i == j }), boardWhere(n, func(i, j int) bool { return j == i || j == (i+1)%n }), boardWhere(n, func(i, j int) bool { return i == n-1 }))
	}
	return append(boards, greaterBoards(3, 4)...)
}

// manyDesks has each of these exchanges with some boards, of its side too if there are any.
func manyDesks() []impl.Desk {
	var desks []impl.Desk
	boards := deskBoards()
	for k, list := range deskExchanges() {
		for at, b := range boards {
			if sideOf(b) == len(list) || (at+k)%13 == 0 {
				desks = append(desks, impl.Desk{Coats: list, Board: b})
			}
		}
	}
	return desks
}

// numbersForLines are numbers of guests and places, the first ones that there are not, and the greatest ones that lines tell.
var numbersForLines = []string{"0", "1", "2", "3", "4", "7", "8", "11", "12", "13", "999999"}

// linesWithNumbers are all lines of the table with one number or two.
func linesWithNumbers() []string {
	var lines []string
	for _, name := range lineNames() {
		for _, n := range numbersForLines {
			switch tableLines[name].words {
			case "N":
				lines = append(lines, name+" "+n)
			case "NN":
				for _, k := range numbersForLines {
					lines = append(lines, name+" "+n+" "+k)
				}
			}
		}
	}
	return lines
}

// linesAlone are all lines of the table of one word.
func linesAlone() []string {
	return slices.DeleteFunc(lineNames(), func(name string) bool { return tableLines[name].words != "" })
}

// linesWithTexts set each of the Coats and each of the Boards.
func linesWithTexts() []string {
	var lines []string
	for _, list := range deskExchanges() {
		lines = append(lines, "coats "+textOf(list))
	}
	for _, b := range deskBoards() {
		lines = append(lines, "board "+b)
	}
	return lines
}

func TestConsoleLimits(t *testing.T) {
	if impl.MaxScript != 3000 || impl.MaxLines != 50 {
		t.Error("MaxScript", impl.MaxScript, "MaxLines", impl.MaxLines)
	}
}

func TestFirstDesk(t *testing.T) {
	d := impl.FirstDesk()
	wantDesk(t, "FirstDesk", d, impl.IsDesk(d), impl.Desk{Coats: []int{1, 2, 0, 3}, Board: "##./.##/#.#"})
}

// TestDesks has each exchange with each board, of whatever sides.
func TestDesks(t *testing.T) {
	for _, list := range deskExchanges() {
		for _, b := range deskBoards() {
			if d := (impl.Desk{Coats: list, Board: b}); !impl.IsDesk(d) {
				t.Error("no desk:", d)
			}
		}
	}
}

// TestLinesAloneAgainstCalls has each line of one word on each desk.
func TestLinesAloneAgainstCalls(t *testing.T) {
	for _, d := range manyDesks() {
		for _, line := range linesAlone() {
			checkLine(t, d, line)
		}
	}
}

func TestLinesWithTextsAgainstCalls(t *testing.T) {
	for k, d := range manyDesks() {
		if k%9 != 0 {
			continue
		}
		for _, line := range linesWithTexts() {
			checkLine(t, d, line)
		}
	}
}

func TestLinesWithNumbersAgainstCalls(t *testing.T) {
	for k, d := range manyDesks() {
		if k%4 != 0 {
			continue
		}
		for _, line := range linesWithNumbers() {
			checkLine(t, d, line)
		}
	}
}

// TestPlacesOfBoards forbids or allows each place of boards, and some that there are not.
func TestPlacesOfBoards(t *testing.T) {
	for _, b := range deskBoards() {
		d := impl.Desk{Coats: []int{1, 0}, Board: b}
		for i := range sideOf(b) + 1 {
			for j := range sideOf(b) + 1 {
				checkLine(t, d, fmt.Sprint("forbid ", i, " ", j))
				checkLine(t, d, fmt.Sprint("allow ", i, " ", j))
			}
		}
	}
}

// TestSwapsOfCoats swaps all guests of some exchanges with each other, and with some that there are not.
func TestSwapsOfCoats(t *testing.T) {
	for _, list := range deskExchanges() {
		for i := range len(list) + 2 {
			for j := range len(list) + 2 {
				checkLine(t, impl.Desk{Coats: list, Board: "##./.##/#.#"}, fmt.Sprint("swap ", i, " ", j))
			}
		}
	}
}

// TestAllNumbersOfGuests has each number of guests with each number of own coats, lost tickets or guests in chains.
func TestAllNumbersOfGuests(t *testing.T) {
	for n := range 15 {
		checkLine(t, impl.FirstDesk(), fmt.Sprint("none ", n))
		for k := range 15 {
			for _, name := range []string{"with", "seat", "long"} {
				checkLine(t, impl.FirstDesk(), fmt.Sprint(name, " ", n, " ", k))
			}
		}
	}
}
