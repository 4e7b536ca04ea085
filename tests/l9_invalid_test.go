package tests

import (
	"fmt"
	"math"
	"slices"
	"testing"

	"loop.example/g01315/impl"
)

// wildNumbers are numbers that clues never tell, some of them with the same last bits as numbers that they do.
var wildNumbers = []int{-1, -2, 6, 7, 8, 12, 100, 256, 257, 1 << 32, 1<<32 + 1, -1 << 32, math.MaxInt, math.MinInt, math.MinInt + 1, math.MaxInt - 1}

// noClues are clues that there are none of for so many guests: each number of a clue one beyond what its kind may have, or far from it.
func noClues(guests int) []impl.Clue {
	are := cluesOf(guests)
	numbers := append([]int{0, 1, 2, 3, 4, 5, guests, guests + 1}, wildNumbers...)
	var all []impl.Clue
	for _, c := range are {
		for _, number := range numbers {
			all = append(all, impl.Clue{Kind: number, A: c.A, B: c.B}, impl.Clue{Kind: c.Kind, A: number, B: c.B}, impl.Clue{Kind: c.Kind, A: c.A, B: number})
		}
	}
	return slices.DeleteFunc(all, func(c impl.Clue) bool { return slices.Contains(are, c) })
}

// fewNoClues are one clue for each rule that it breaks.
func fewNoClues(guests int) []impl.Clue {
	return []impl.Clue{
		{Kind: -1}, {Kind: 6}, {Kind: 6, A: 1}, {Kind: math.MaxInt}, {Kind: math.MinInt, A: 1},
		{Kind: 0, A: guests}, {Kind: 0, A: -1}, {Kind: 0, B: guests}, {Kind: 0, B: -1}, {Kind: 1, A: guests}, {Kind: 1, A: -1}, {Kind: 1, B: guests}, {Kind: 1, B: -1},
		{Kind: 2, A: guests + 1}, {Kind: 2, A: -1}, {Kind: 2, B: 1}, {Kind: 3}, {Kind: 3, A: guests + 1}, {Kind: 3, A: 1, B: 1}, {Kind: 3, A: 1, B: -1},
		{Kind: 4, A: guests}, {Kind: 4, A: -1, B: 1}, {Kind: 4, B: 2}, {Kind: 4, B: -1}, {Kind: 5}, {Kind: 5, A: 7}, {Kind: 5, A: 1, B: 1}, {Kind: 5, A: -1}, {Kind: 0, A: math.MinInt, B: math.MaxInt},
	}
}

// badGuests are numbers of guests that no puzzle has.
var badGuests = []int{0, -1, 6, 7, 12, 13, -5, 64, 256 + 3, 1 << 32, 1<<32 + 3, math.MaxInt, math.MinInt}

// noPuzzles are puzzles that are none: with other numbers of guests or of clues, and with a clue that is none at any place,
// behind clues against each other too, so that no exchange is left when it comes.
func noPuzzles() []impl.Puzzle {
	var all []impl.Puzzle
	for _, guests := range badGuests {
		all = append(all, impl.Puzzle{Guests: guests}, impl.Puzzle{Guests: guests, Clues: []impl.Clue{{Kind: 5, A: 1}}}, impl.Puzzle{Guests: guests, Clues: []impl.Clue{{Kind: 0}, {Kind: 2}}}, impl.Puzzle{Guests: guests, Clues: make([]impl.Clue, 7)}, impl.Puzzle{Guests: guests, Clues: []impl.Clue{{Kind: 9}}})
	}
	for guests := 1; guests <= 5; guests++ {
		for _, many := range []int{7, 8, 12, 64, 1000} {
			all = append(all, impl.Puzzle{Guests: guests, Clues: make([]impl.Clue, many)}, impl.Puzzle{Guests: guests, Clues: slices.Repeat([]impl.Clue{{Kind: 5, A: 6}}, many)})
		}
		for _, bad := range fewNoClues(guests) {
			all = append(all, impl.Puzzle{Guests: guests, Clues: []impl.Clue{bad}}, impl.Puzzle{Guests: guests, Clues: []impl.Clue{{Kind: 0}, {Kind: 1}, bad}})
			for k := range 6 {
				clues := []impl.Clue{{Kind: 0}, {Kind: 1}, {Kind: 2}, {Kind: 3, A: 1}, {Kind: 4}, {Kind: 5, A: 1}}
				clues[k] = bad
				all = append(all, impl.Puzzle{Guests: guests, Clues: clues})
			}
		}
	}
	return all
}

func TestCluesThatAreNone(t *testing.T) {
	for guests := 1; guests <= 5; guests++ {
		for _, c := range append(noClues(guests), fewNoClues(guests)...) {
			if impl.IsClue(guests, c) {
				t.Error("a clue:", guests, c)
			}
			for _, list := range [][]int{inOrder(guests), backwards(guests)} {
				fit, ok := impl.DoesFit(c, list)
				wantNothing(t, fmt.Sprint("DoesFit ", c, list), fit, ok)
			}
		}
		for _, c := range noClues(guests) {
			longer, ok := impl.AddClue(impl.Puzzle{Guests: guests}, c)
			wantNothing(t, fmt.Sprint("AddClue ", guests, c), longer, ok)
		}
	}
}

// TestNoCluesOfOtherGuests has clues of hidden exchanges with numbers of guests for whom there is no puzzle.
func TestNoCluesOfOtherGuests(t *testing.T) {
	for _, guests := range badGuests {
		for _, c := range append(cluesOf(5), impl.Clue{Kind: 2, A: guests}, impl.Clue{Kind: 3, A: guests}, impl.Clue{Kind: 0, A: guests - 1, B: guests - 1}) {
			if impl.IsClue(guests, c) {
				t.Error("a clue:", guests, c)
			}
		}
	}
}

// TestExchangesThatAreNotHidden has lists that are no exchanges, and exchanges of more guests than are hidden.
func TestExchangesThatAreNotHidden(t *testing.T) {
	lists := append(slices.Clone(noExchanges), []int{0, 1, 2, 3, 5}, []int{4, 3, 2, 1, 1}, []int{-1, 0, 1, 2, 3})
	for guests := 6; guests <= 13; guests++ {
		lists = append(lists, inOrder(guests), backwards(guests))
	}
	for _, list := range lists {
		for _, c := range append(cluesOf(5), fewNoClues(5)...) {
			fit, ok := impl.DoesFit(c, list)
			wantNothing(t, fmt.Sprint("DoesFit ", c, list), fit, ok)
		}
		for _, seed := range []int{0, 1, 9999, 10000, -1} {
			for clues := -1; clues <= 7; clues++ {
				made, ok := impl.MakePuzzle(list, clues, seed)
				wantNothing(t, fmt.Sprint("MakePuzzle ", list, clues, seed), made, ok)
			}
		}
	}
}

// noPuzzleAt requires of each function of a puzzle that it fails.
func noPuzzleAt(t *testing.T, p impl.Puzzle) {
	t.Helper()
	what := fmt.Sprintf(" of %.200q", fmt.Sprint(p))
	if impl.IsPuzzle(p) {
		t.Error("a puzzle:", what)
	}
	solutions, ok := impl.Solutions(p)
	wantNothing(t, "Solutions"+what, solutions, ok)
	count, ok := impl.CountSolutions(p)
	wantNothing(t, "CountSolutions"+what, count, ok)
	first, ok := impl.FirstSolution(p)
	wantNothing(t, "FirstSolution"+what, first, ok)
	sure, ok := impl.SureCoats(p)
	wantNothing(t, "SureCoats"+what, sure, ok)
	solved, ok := impl.IsSolved(p)
	wantNothing(t, "IsSolved"+what, solved, ok)
	needless, ok := impl.NeedlessClues(p)
	wantNothing(t, "NeedlessClues"+what, needless, ok)
	left, ok := impl.LeftByClues(p)
	wantNothing(t, "LeftByClues"+what, left, ok)
	best, ok := impl.BestClue(p)
	wantNothing(t, "BestClue"+what, best, ok)
	harder, ok := impl.HarderPuzzle(p)
	wantNothing(t, "HarderPuzzle"+what, harder, ok)
	text, ok := impl.PuzzleText(p)
	wantNothing(t, "PuzzleText"+what, text, ok)
	noChangeAt(t, p)
}

// noChangeAt requires that no clue can be dropped from a list that is no puzzle, nor be added, not even where a puzzle would come out.
func noChangeAt(t *testing.T, p impl.Puzzle) {
	t.Helper()
	what := fmt.Sprintf(" of %.200q", fmt.Sprint(p))
	for k := range min(len(p.Clues), 8) + 1 {
		without, ok := impl.DropClue(p, k)
		wantNothing(t, fmt.Sprint("DropClue ", k, what), without, ok)
	}
	for _, c := range []impl.Clue{{}, {Kind: 2}, {Kind: 5, A: 1}, {Kind: 6}} {
		longer, ok := impl.AddClue(p, c)
		wantNothing(t, fmt.Sprint("AddClue ", c, what), longer, ok)
	}
}

func TestPuzzlesThatAreNone(t *testing.T) {
	for _, p := range noPuzzles() {
		noPuzzleAt(t, p)
	}
}

// TestNoSuchIndexOfClue has puzzles with each number of clues.
func TestNoSuchIndexOfClue(t *testing.T) {
	for clues := range 7 {
		p := impl.Puzzle{Guests: 3, Clues: slices.Repeat([]impl.Clue{{Kind: 4, A: 2}}, clues)}
		for _, k := range append(noNumbersOf(clues), 6, 7) {
			if k >= 0 && k < clues {
				continue
			}
			without, ok := impl.DropClue(p, k)
			wantNothing(t, fmt.Sprint("DropClue ", puzzleText(p), k), without, ok)
		}
	}
}

// TestNoSuchNumbersOfCluesAndSeeds has the greatest and the least ones too, that there are.
func TestNoSuchNumbersOfCluesAndSeeds(t *testing.T) {
	for _, list := range [][]int{{0}, {1, 0}, {1, 2, 0, 3}, {4, 3, 2, 1, 0}} {
		for _, clues := range []int{-1, -6, 0, 1, 5, 6, 7, 8, 64, 256, 1 << 32, 1<<32 + 1, math.MaxInt, math.MinInt} {
			for _, seed := range []int{-1, -9999, 0, 1, 9998, 9999, 10000, 10001, 10006, 10007, 1 << 16, 1 << 32, math.MaxInt, math.MinInt} {
				is := clues >= 0 && clues <= 6 && seed >= 0 && seed <= 9999
				wantOnly(t, fmt.Sprint("MakePuzzle ", list, clues, seed), is, results(impl.MakePuzzle(list, clues, seed))...)
			}
		}
	}
}

// TestPuzzlesOfManyClues has the greatest number of clues, and one more, of each clue that there is.
func TestPuzzlesOfManyClues(t *testing.T) {
	for guests := 1; guests <= 5; guests++ {
		for _, c := range cluesOf(guests) {
			for clues := range 9 {
				p := impl.Puzzle{Guests: guests, Clues: slices.Repeat([]impl.Clue{c}, clues)}
				if impl.IsPuzzle(p) != (clues <= 6) {
					t.Error("IsPuzzle", clues, p)
				}
			}
		}
	}
}
