package tests

import (
	"fmt"
	"slices"
	"strconv"
	"strings"
	"testing"

	"loop.example/g01315/impl"
)

// hidden are all exchanges of 0, 1, .. up to five guests in order.
var hidden = [][][]int{nil, exchangesOf(1), exchangesOf(2), exchangesOf(3), exchangesOf(4), exchangesOf(5)}

// cluesOf returns all clues of exchanges of so many guests, kind by kind.
func cluesOf(guests int) []impl.Clue {
	var all []impl.Clue
	add := func(kind, leastA, mostA, mostB int) {
		for a := leastA; a <= mostA; a++ {
			for b := 0; b <= mostB; b++ {
				all = append(all, impl.Clue{Kind: kind, A: a, B: b})
			}
		}
	}
	add(0, 0, guests-1, guests-1)
	add(1, 0, guests-1, guests-1)
	add(2, 0, guests, 0)
	add(3, 1, guests, 0)
	add(4, 0, guests-1, 1)
	add(5, 1, 6, 0)
	return all
}

// clueFits reports whether an exchange fits a clue, by no function of the program.
func clueFits(c impl.Clue, list []int) bool {
	switch c.Kind {
	case 0:
		return list[c.A] == c.B
	case 1:
		return list[c.A] != c.B
	case 2:
		return len(ownIn(list)) == c.A
	case 3:
		return len(lengthsIn(list)) == c.A
	case 4:
		return (list[c.A] > c.A) == (c.B == 1)
	}
	return timesMade(list) == c.A
}

// fitting returns all exchanges of so many guests that fit some clues, in order.
func fitting(guests int, clues ...impl.Clue) [][]int {
	return slices.DeleteFunc(slices.Clone(hidden[guests]), func(list []int) bool {
		return slices.ContainsFunc(clues, func(c impl.Clue) bool { return !clueFits(c, list) })
	})
}

// trueClues returns all clues that an exchange fits.
func trueClues(list []int) []impl.Clue {
	return slices.DeleteFunc(cluesOf(len(list)), func(c impl.Clue) bool { return !clueFits(c, list) })
}

// smallPuzzles are all puzzles of up to three guests with up to two clues, and of four and five guests with up to one.
func smallPuzzles() []impl.Puzzle {
	var all []impl.Puzzle
	for guests := 1; guests <= 5; guests++ {
		all = append(all, impl.Puzzle{Guests: guests})
		for _, c := range cluesOf(guests) {
			all = append(all, impl.Puzzle{Guests: guests, Clues: []impl.Clue{c}})
			if guests > 3 {
				continue
			}
			for _, d := range cluesOf(guests) {
				all = append(all, impl.Puzzle{Guests: guests, Clues: []impl.Clue{c, d}})
			}
		}
	}
	return all
}

// mixer returns numbers that follow from each other without an order that the eye sees, each less than the number that is told.
func mixer(seed int) func(int) int {
	z := seed*7919 + 17
	return func(many int) int {
		z = (z*1103 + 12345) % 65521
		return z / 5 % many
	}
}

// mixedPuzzles are puzzles of each number of guests and of clues: of any clues, of clues that one exchange fits, some told twice, and of the latter with one of the former behind.
func mixedPuzzles(seeds int) []impl.Puzzle {
	var all []impl.Puzzle
	for seed := range seeds {
		for guests := 1; guests <= 5; guests++ {
			next := mixer(seed*5 + guests)
			list := hidden[guests][next(len(hidden[guests]))]
			for clues := 0; clues <= 6; clues++ {
				fit := pick(clues, trueClues(list), next)
				all = append(all, impl.Puzzle{Guests: guests, Clues: pick(clues, cluesOf(guests), next)}, impl.Puzzle{Guests: guests, Clues: fit})
				if clues > 0 {
					all = append(all, impl.Puzzle{Guests: guests, Clues: append(slices.Clone(fit[1:]), pick(1, cluesOf(guests), next)...)})
					all = append(all, impl.Puzzle{Guests: guests, Clues: append(slices.Clone(fit[1:]), fit[clues/2])})
				}
			}
		}
	}
	return all
}

func pick(many int, among []impl.Clue, next func(int) int) []impl.Clue {
	var clues []impl.Clue
	for range many {
		clues = append(clues, among[next(len(among))])
	}
	return clues
}

// puzzleText returns the text of any puzzle, whether that is one or not.
func puzzleText(p impl.Puzzle) string {
	var words []string
	for _, c := range p.Clues {
		words = append(words, fmt.Sprintf("%d.%d.%d", c.Kind, c.A, c.B))
	}
	return strconv.Itoa(p.Guests) + ":" + strings.Join(words, ",")
}

// puzzleOf reads a puzzle that is written out for a test.
func puzzleOf(text string) impl.Puzzle {
	guests, clues, _ := strings.Cut(text, ":")
	p := impl.Puzzle{Guests: int(guests[0] - '0')}
	for k := 0; k < len(clues); k += len("0.0.0,") {
		p.Clues = append(p.Clues, impl.Clue{Kind: int(clues[k] - '0'), A: int(clues[k+2] - '0'), B: int(clues[k+4] - '0')})
	}
	return p
}

func wantPuzzle(t *testing.T, what string, got impl.Puzzle, ok bool, want impl.Puzzle) {
	t.Helper()
	if !ok || got.Guests != want.Guests || !slices.Equal(got.Clues, want.Clues) {
		t.Errorf("%s: got %v %v, want %v true", what, got, ok, want)
	}
}

func TestPuzzleLimits(t *testing.T) {
	if impl.MaxHidden != 5 || impl.MaxClues != 6 {
		t.Error("MaxHidden", impl.MaxHidden, "MaxClues", impl.MaxClues)
	}
}

func TestPuzzleExample(t *testing.T) {
	p, ok := impl.ParsePuzzle("3:2.0.0,0.0.1")
	wantPuzzle(t, "ParsePuzzle", p, ok, impl.Puzzle{Guests: 3, Clues: []impl.Clue{{Kind: 2}, {Kind: 0, A: 0, B: 1}}})
	solutions, ok := impl.Solutions(p)
	wantLists(t, "Solutions", solutions, ok, []int{1, 2, 0})
	left, ok := impl.LeftByClues(p)
	wantList(t, "LeftByClues", left, ok, 6, 2, 1)
	p, ok = impl.ParsePuzzle("3:2.1.0")
	sure, fine := impl.SureCoats(p)
	wantList(t, "SureCoats", sure, ok && fine, -1, -1, -1)
	p, ok = impl.ParsePuzzle("4:3.1.0")
	count, fine := impl.CountSolutions(p)
	wantNumber(t, "CountSolutions", count, ok && fine, 6)
}

// TestCluesOfAnyNumbers has all small numbers of guests, kinds and of what clues tell: just those that there are make a clue.
func TestCluesOfAnyNumbers(t *testing.T) {
	for guests := -1; guests <= 13; guests++ {
		var are []impl.Clue
		if guests >= 1 && guests <= 5 {
			are = cluesOf(guests)
		}
		for kind := -2; kind <= 8; kind++ {
			for a := -2; a <= 8; a++ {
				for b := -2; b <= 8; b++ {
					c := impl.Clue{Kind: kind, A: a, B: b}
					if want := slices.Contains(are, c); impl.IsClue(guests, c) != want {
						t.Errorf("IsClue %d %v: want %v", guests, c, want)
					}
				}
			}
		}
	}
}

// TestCluesAgainstAllHiddenExchanges has each clue that there is with each exchange.
func TestCluesAgainstAllHiddenExchanges(t *testing.T) {
	for guests := 1; guests <= 5; guests++ {
		for _, c := range cluesOf(guests) {
			for _, list := range hidden[guests] {
				fit, ok := impl.DoesFit(c, list)
				wantBool(t, fmt.Sprint("DoesFit ", c, list), fit, ok, clueFits(c, list))
			}
		}
	}
}

func TestCluesAgainstExchangesWrittenOut(t *testing.T) {
	for _, c := range []struct {
		clue impl.Clue
		list []int
		want bool
	}{
		{impl.Clue{Kind: 0, A: 0, B: 1}, []int{1, 2, 0, 3}, true}, {impl.Clue{Kind: 0, A: 1, B: 0}, []int{1, 2, 0, 3}, false}, {impl.Clue{Kind: 0, A: 3, B: 3}, []int{1, 2, 0, 3}, true}, {impl.Clue{Kind: 0, A: 4, B: 0}, []int{1, 2, 3, 4, 0}, true},
		{impl.Clue{Kind: 1, A: 0, B: 1}, []int{1, 2, 0, 3}, false}, {impl.Clue{Kind: 1, A: 1, B: 0}, []int{1, 2, 0, 3}, true}, {impl.Clue{Kind: 1, A: 3, B: 3}, []int{1, 2, 0, 3}, false}, {impl.Clue{Kind: 1}, []int{0}, false},
		{impl.Clue{Kind: 2, A: 1}, []int{1, 2, 0, 3}, true}, {impl.Clue{Kind: 2, A: 0}, []int{1, 2, 0, 3}, false}, {impl.Clue{Kind: 2, A: 5}, []int{0, 1, 2, 3, 4}, true}, {impl.Clue{Kind: 2, A: 4}, []int{0, 1, 2, 4, 3}, false}, {impl.Clue{Kind: 2, A: 0}, []int{1, 0}, true},
		{impl.Clue{Kind: 3, A: 2}, []int{1, 2, 0, 3}, true}, {impl.Clue{Kind: 3, A: 1}, []int{1, 2, 0, 3}, false}, {impl.Clue{Kind: 3, A: 1}, []int{1, 2, 3, 4, 0}, true}, {impl.Clue{Kind: 3, A: 5}, []int{0, 1, 2, 3, 4}, true}, {impl.Clue{Kind: 3, A: 3}, []int{4, 3, 2, 1, 0}, true},
		{impl.Clue{Kind: 4, A: 0, B: 1}, []int{1, 2, 0, 3}, true}, {impl.Clue{Kind: 4, A: 0, B: 0}, []int{1, 2, 0, 3}, false}, {impl.Clue{Kind: 4, A: 2, B: 0}, []int{1, 2, 0, 3}, true}, {impl.Clue{Kind: 4, A: 2, B: 1}, []int{1, 2, 0, 3}, false}, {impl.Clue{Kind: 4, A: 3, B: 0}, []int{1, 2, 0, 3}, true}, {impl.Clue{Kind: 4, A: 3, B: 1}, []int{1, 2, 0, 3}, false},
		{impl.Clue{Kind: 5, A: 3}, []int{1, 2, 0, 3}, true}, {impl.Clue{Kind: 5, A: 1}, []int{0, 1}, true}, {impl.Clue{Kind: 5, A: 6}, []int{1, 2, 0, 4, 3}, true}, {impl.Clue{Kind: 5, A: 5}, []int{1, 2, 3, 4, 0}, true}, {impl.Clue{Kind: 5, A: 2}, []int{1, 2, 0, 4, 3}, false}, {impl.Clue{Kind: 5, A: 6}, []int{0}, false},
	} {
		fit, ok := impl.DoesFit(c.clue, c.list)
		wantBool(t, fmt.Sprint("DoesFit ", c.clue, c.list), fit, ok, c.want)
	}
}

// TestOneKindTellsTheOther has clues of two kinds that just one of fits each exchange, and clues of a kind of which each exchange fits just one.
func TestOneKindTellsTheOther(t *testing.T) {
	for _, list := range slices.Concat(hidden...) {
		fits := [6]int{}
		for _, c := range cluesOf(len(list)) {
			fit, ok := impl.DoesFit(c, list)
			if !ok {
				t.Error("DoesFit fails", c, list)
			}
			if fit {
				fits[c.Kind]++
			}
		}
		n := len(list)
		if want := [6]int{n, n*n - n, 1, 1, n, 1}; fits != want {
			t.Error("clues that fit", list, fits, "want", want)
		}
	}
}

// checkSolutions holds all that is told of the solutions of a puzzle against all exchanges.
func checkSolutions(t *testing.T, p impl.Puzzle) {
	t.Helper()
	what := " of " + puzzleText(p)
	wants := fitting(p.Guests, p.Clues...)
	if !impl.IsPuzzle(p) {
		t.Error("no puzzle:", what)
	}
	solutions, ok := impl.Solutions(p)
	wantLists(t, "Solutions"+what, solutions, ok, wants...)
	count, ok := impl.CountSolutions(p)
	wantNumber(t, "CountSolutions"+what, count, ok, len(wants))
	solved, ok := impl.IsSolved(p)
	wantBool(t, "IsSolved"+what, solved, ok, len(wants) == 1)
	first, ok := impl.FirstSolution(p)
	sure, fine := impl.SureCoats(p)
	if len(wants) == 0 {
		wantNothing(t, "FirstSolution"+what, first, ok)
		wantNothing(t, "SureCoats"+what, sure, fine)
		return
	}
	wantList(t, "FirstSolution"+what, first, ok, wants[0]...)
	wantList(t, "SureCoats"+what, sure, fine, sureIn(wants)...)
}

// sureIn returns what all lists have at each place, or -1 where they differ.
func sureIn(lists [][]int) []int {
	sure := slices.Repeat([]int{-1}, len(lists[0]))
	for place, number := range lists[0] {
		if !slices.ContainsFunc(lists, func(list []int) bool { return list[place] != number }) {
			sure[place] = number
		}
	}
	return sure
}

func TestSolutionsOfSmallPuzzles(t *testing.T) {
	for _, p := range smallPuzzles() {
		checkSolutions(t, p)
	}
}

func TestSolutionsOfMixedPuzzles(t *testing.T) {
	for _, p := range mixedPuzzles(15) {
		checkSolutions(t, p)
	}
}

// TestSolutionsFitAllClues calls for what the promise tells: solutions fit all clues, and no other exchange does.
func TestSolutionsFitAllClues(t *testing.T) {
	for _, p := range mixedPuzzles(4) {
		solutions, ok := impl.Solutions(p)
		for _, list := range hidden[p.Guests] {
			all := true
			for _, c := range p.Clues {
				fit, fine := impl.DoesFit(c, list)
				all, ok = all && fit, ok && fine
			}
			is := slices.ContainsFunc(solutions, func(other []int) bool { return slices.Equal(list, other) })
			wantBool(t, fmt.Sprint("solution ", puzzleText(p), list), is, ok, all)
		}
	}
}

// toldPuzzle is all that is told of a puzzle, with the text of the harder one if it is solved.
type toldPuzzle struct {
	text     string
	count    int
	first    []int
	sure     []int
	needless []int
	left     []int
	best     int
	harder   string
}

// toldPuzzles are the least and the greatest puzzles, without a clue, with clues told twice, needless and against each other, all of them written out.
var toldPuzzles = []toldPuzzle{
	{"1:", 1, []int{0}, []int{0}, nil, []int{1}, -1, "1:"},
	{"5:", 120, []int{0, 1, 2, 3, 4}, []int{-1, -1, -1, -1, -1}, nil, []int{120}, -1, ""},
	{"3:2.0.0,0.0.1", 1, []int{1, 2, 0}, []int{1, 2, 0}, nil, []int{6, 2, 1}, 0, "3:2.0.0,0.0.1"},
	{"3:2.1.0", 3, []int{0, 2, 1}, []int{-1, -1, -1}, nil, []int{6, 3}, 0, ""},
	{"4:3.1.0", 6, []int{1, 2, 3, 0}, []int{-1, -1, -1, -1}, nil, []int{24, 6}, 0, ""},
	{"2:0.0.1", 1, []int{1, 0}, []int{1, 0}, nil, []int{2, 1}, 0, "2:0.0.1"},
	{"2:0.0.1,0.0.1", 1, []int{1, 0}, []int{1, 0}, []int{0, 1}, []int{2, 1, 1}, 0, "2:0.0.1"},
	{"2:0.0.1,0.0.0", 0, nil, nil, nil, []int{2, 1, 0}, 0, ""},
	{"1:5.6.0", 0, nil, nil, nil, []int{1, 0}, 0, ""},
	{"1:0.0.0,1.0.0", 0, nil, nil, []int{0}, []int{1, 1, 0}, 1, ""},
	{"5:2.4.0", 0, nil, nil, nil, []int{120, 0}, 0, ""},
	{"5:3.5.0", 1, []int{0, 1, 2, 3, 4}, []int{0, 1, 2, 3, 4}, nil, []int{120, 1}, 0, "5:3.5.0"},
	{"5:2.5.0", 1, []int{0, 1, 2, 3, 4}, []int{0, 1, 2, 3, 4}, nil, []int{120, 1}, 0, "5:2.5.0"},
	{"4:4.0.0,4.3.1", 0, nil, nil, []int{0}, []int{24, 6, 0}, 1, ""},
	{"5:0.0.1,0.1.2,0.2.3,0.3.4,0.4.0,3.1.0", 1, []int{1, 2, 3, 4, 0}, []int{1, 2, 3, 4, 0}, []int{0, 1, 2, 3, 4, 5}, []int{120, 24, 6, 2, 1, 1, 1}, 0, "5:0.2.3,0.3.4,0.4.0,3.1.0"},
	{"5:5.6.0,2.0.0,0.0.1,0.2.3,4.1.0,1.0.0", 1, []int{1, 0, 3, 4, 2}, []int{1, 0, 3, 4, 2}, []int{0, 1, 5}, []int{120, 20, 20, 5, 2, 1, 1}, 0, "5:2.0.0,0.0.1,0.2.3,4.1.0"},
	{"5:5.5.0,4.0.1,4.1.1,4.2.1,4.3.1,4.4.0", 1, []int{1, 2, 3, 4, 0}, []int{1, 2, 3, 4, 0}, []int{0, 1, 5}, []int{120, 24, 24, 18, 8, 1, 1}, 0, "5:4.0.1,4.1.1,4.2.1,4.3.1"},
	{"4:5.2.0,2.0.0,4.3.0,1.0.1,1.0.2", 1, []int{3, 2, 1, 0}, []int{3, 2, 1, 0}, []int{2}, []int{24, 9, 3, 3, 2, 1}, 0, "4:5.2.0,2.0.0,1.0.1,1.0.2"},
	{"4:0.3.0,0.0.3,2.2.0,3.3.0,5.2.0,4.0.1", 1, []int{3, 1, 2, 0}, []int{3, 1, 2, 0}, []int{0, 1, 2, 3, 4, 5}, []int{24, 6, 2, 1, 1, 1, 1}, 0, "4:0.0.3,3.3.0"},
	{"4:2.1.0,3.2.0,0.0.0,0.1.2,0.2.3,0.3.1", 1, []int{0, 2, 3, 1}, []int{0, 2, 3, 1}, []int{0, 1, 2, 3, 4, 5}, []int{24, 8, 8, 2, 1, 1, 1}, 2, "4:0.1.2,0.2.3,0.3.1"},
	{"4:2.1.0,5.3.0,3.2.0,4.3.1,4.0.1,1.0.1", 0, nil, nil, []int{0, 1, 2, 4, 5}, []int{24, 8, 8, 8, 0, 0, 0}, 3, ""},
	{"5:1.0.0,1.1.1,1.2.2,1.3.3,1.4.4,2.0.0", 44, []int{1, 0, 3, 4, 2}, []int{-1, -1, -1, -1, -1}, []int{0, 1, 2, 3, 4, 5}, []int{120, 96, 78, 64, 53, 44, 44}, 5, ""},
	{"3:3.1.0,2.0.0,5.3.0,0.1.0,0.0.2,0.2.1", 1, []int{2, 0, 1}, []int{2, 0, 1}, []int{0, 1, 2, 3, 4, 5}, []int{6, 2, 2, 2, 1, 1, 1}, 0, "3:0.0.2,0.2.1"},
	{"5:3.2.0,5.6.0,1.0.2,3.2.0,4.3.1,5.6.0", 3, []int{1, 0, 3, 4, 2}, []int{-1, -1, -1, 4, -1}, []int{0, 1, 3, 5}, []int{120, 50, 20, 15, 15, 3, 3}, 1, ""},
}

func TestSolutionsWrittenOut(t *testing.T) {
	for _, c := range toldPuzzles {
		p := puzzleOf(c.text)
		count, ok := impl.CountSolutions(p)
		wantNumber(t, "CountSolutions of "+c.text, count, ok, c.count)
		solved, ok := impl.IsSolved(p)
		wantBool(t, "IsSolved of "+c.text, solved, ok, c.count == 1)
		first, ok := impl.FirstSolution(p)
		sure, fine := impl.SureCoats(p)
		if c.count == 0 {
			wantNothing(t, "FirstSolution of "+c.text, first, ok)
			wantNothing(t, "SureCoats of "+c.text, sure, fine)
			continue
		}
		wantList(t, "FirstSolution of "+c.text, first, ok, c.first...)
		wantList(t, "SureCoats of "+c.text, sure, fine, c.sure...)
	}
}
