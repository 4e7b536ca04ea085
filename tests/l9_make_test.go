package tests

import (
	"fmt"
	"slices"
	"testing"

	"loop.example/g01315/impl"
)

// puzzleNumbers returns the numbers behind a seed by which puzzles are made.
func puzzleNumbers(seed, many int) []int {
	var numbers []int
	for z := seed; len(numbers) < many; {
		z = (191*z + 2719) % 10007
		numbers = append(numbers, z)
	}
	return numbers
}

// madePuzzle returns the puzzle that is made of an exchange: of all clues that it fits, those of the kinds and guests that the numbers tell.
func madePuzzle(list []int, clues, seed int) impl.Puzzle {
	p := impl.Puzzle{Guests: len(list)}
	numbers := puzzleNumbers(seed, 2*clues)
	for k := range clues {
		kind, guest := numbers[2*k]%6, numbers[2*k+1]%len(list)
		if len(list) == 1 && kind == 1 {
			kind = 0
		}
		fit := slices.DeleteFunc(trueClues(list), func(c impl.Clue) bool {
			ofGuest := kind == 0 || kind == 1 || kind == 4
			return c.Kind != kind || ofGuest && c.A != guest || kind == 1 && c.B != (list[guest]+1)%len(list)
		})
		if len(fit) != 1 {
			panic(fmt.Sprint("clues of kind ", kind, " for ", list, ": ", fit))
		}
		p.Clues = append(p.Clues, fit[0])
	}
	return p
}

var someSeeds = []int{0, 1, 2, 3, 5, 42, 77, 999, 1000, 1234, 5000, 7287, 7288, 9997, 9998, 9999}

// checkMade requires that a puzzle is made as told, and that its exchange fits it.
func checkMade(t *testing.T, list []int, clues, seed int) {
	t.Helper()
	what := fmt.Sprint("MakePuzzle ", list, " ", clues, " ", seed)
	p, ok := impl.MakePuzzle(list, clues, seed)
	wantPuzzle(t, what, p, ok, madePuzzle(list, clues, seed))
	if !impl.IsPuzzle(p) {
		t.Error(what, "is no puzzle:", p)
	}
	for _, c := range p.Clues {
		fit, ok := impl.DoesFit(c, list)
		wantBool(t, what+" has a clue", fit, ok, true)
	}
}

// TestPuzzlesMade has all hidden exchanges and all numbers of clues with some seeds.
func TestPuzzlesMade(t *testing.T) {
	for guests := 1; guests <= 5; guests++ {
		for k, list := range hidden[guests] {
			for clues := 0; clues <= 6; clues++ {
				for _, seed := range []int{0, 9999, someSeeds[k%len(someSeeds)]} {
					checkMade(t, list, clues, seed)
				}
			}
		}
	}
}

// TestPuzzlesMadeByAllSeeds has each seed with one exchange, and each kind of clues with each number of guests.
func TestPuzzlesMadeByAllSeeds(t *testing.T) {
	kinds := map[[2]int]bool{}
	for seed := range 10000 {
		list := [][]int{{0}, {1, 0}, {2, 0, 1}, {1, 2, 0, 3}, {1, 2, 0, 4, 3}}[seed%5]
		p, ok := impl.MakePuzzle(list, 6, seed)
		wantPuzzle(t, fmt.Sprint("MakePuzzle ", list, seed), p, ok, madePuzzle(list, 6, seed))
		for _, c := range p.Clues {
			kinds[[2]int{len(list), c.Kind}] = true
		}
	}
	for guests := 1; guests <= 5; guests++ {
		for kind := range 6 {
			if kinds[[2]int{guests, kind}] != (guests > 1 || kind != 1) {
				t.Error("puzzles made of guests", guests, "have clues of kind", kind, kinds[[2]int{guests, kind}])
			}
		}
	}
}

// TestMadePuzzlesAreSolvedByTheirExchange has that exchange among all solutions, and fewer clues as the beginning of more.
func TestMadePuzzlesAreSolvedByTheirExchange(t *testing.T) {
	for _, list := range slices.Concat(hidden[1], hidden[2], hidden[3], hidden[4], hidden[5][:60]) {
		for _, seed := range []int{0, 4711, 9999} {
			most, ok := impl.MakePuzzle(list, 6, seed)
			solutions, fine := impl.Solutions(most)
			is := slices.ContainsFunc(solutions, func(other []int) bool { return slices.Equal(list, other) })
			wantBool(t, fmt.Sprint("made of ", list, seed), is, ok && fine, true)
			for clues := range 6 {
				fewer, ok := impl.MakePuzzle(list, clues, seed)
				wantPuzzle(t, fmt.Sprint("MakePuzzle ", list, clues, seed), fewer, ok, impl.Puzzle{Guests: len(list), Clues: most.Clues[:clues]})
			}
		}
	}
}

// TestPuzzlesMadeWrittenOut has puzzles of every kind of clue, of one guest alone, without clues, and by the least and the greatest seed.
func TestPuzzlesMadeWrittenOut(t *testing.T) {
	for _, c := range []struct {
		list        []int
		clues, seed int
		want        string
	}{
		{[]int{1, 2, 0, 3}, 6, 0, "4:1.0.2,5.3.0,2.1.0,0.3.3,4.2.0,4.3.0"},
		{[]int{1, 2, 0, 3}, 6, 9999, "4:3.2.0,5.3.0,2.1.0,2.1.0,3.2.0,0.3.3"},
		{[]int{1, 2, 0, 3}, 1, 0, "4:1.0.2"},
		{[]int{0}, 6, 0, "1:0.0.0,5.1.0,2.1.0,0.0.0,4.0.0,4.0.0"},
		{[]int{0}, 6, 9999, "1:3.1.0,5.1.0,2.1.0,2.1.0,3.1.0,0.0.0"},
		{[]int{1, 2, 0, 4, 3}, 6, 77, "5:3.2.0,5.6.0,1.0.2,3.2.0,4.3.1,5.6.0"},
		{[]int{1, 2, 0, 4, 3}, 0, 5, "5:"},
		{[]int{0, 1, 2, 3, 4}, 6, 1234, "5:2.5.0,5.1.0,0.1.1,4.1.0,2.5.0,5.1.0"},
		{[]int{4, 3, 2, 1, 0}, 1, 1, "5:0.4.0"},
		{[]int{1, 0}, 3, 42, "2:2.0.0,0.1.0,2.0.0"},
		{[]int{2, 0, 1}, 6, 2026, "3:5.3.0,2.0.0,5.3.0,1.1.1,5.3.0,4.2.0"},
		{[]int{1, 2, 3, 4, 0}, 6, 9998, "5:4.1.1,5.5.0,2.0.0,3.1.0,0.3.4,3.1.0"},
	} {
		p, ok := impl.MakePuzzle(c.list, c.clues, c.seed)
		wantPuzzle(t, fmt.Sprint("MakePuzzle ", c.list, c.clues, c.seed), p, ok, puzzleOf(c.want))
	}
}
