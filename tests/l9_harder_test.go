package tests

import (
	"fmt"
	"slices"
	"testing"

	"loop.example/g01315/impl"
)

// withoutOne returns clues without the one at an index.
func withoutOne(clues []impl.Clue, k int) []impl.Clue {
	return slices.Delete(slices.Clone(clues), k, k+1)
}

// needlessIn returns the indices of clues without each of which as many exchanges fit the others.
func needlessIn(p impl.Puzzle) []int {
	all := len(fitting(p.Guests, p.Clues...))
	return slices.DeleteFunc(inOrder(len(p.Clues)), func(k int) bool {
		return len(fitting(p.Guests, withoutOne(p.Clues, k)...)) != all
	})
}

// leftBy returns how many exchanges fit the first clues.
func leftBy(p impl.Puzzle) []int {
	var left []int
	for k := range len(p.Clues) + 1 {
		left = append(left, len(fitting(p.Guests, p.Clues[:k]...)))
	}
	return left
}

// bestIn returns the index of the clue that the fewest exchanges fit.
func bestIn(p impl.Puzzle) int {
	best := 0
	for k, c := range p.Clues {
		if len(fitting(p.Guests, c)) < len(fitting(p.Guests, p.Clues[best])) {
			best = k
		}
	}
	return best
}

// hardened returns a solved puzzle without those clues that can be done without, each one looked at behind those that are gone.
func hardened(p impl.Puzzle) impl.Puzzle {
	kept := inOrder(len(p.Clues))
	for k := range p.Clues {
		var clues []impl.Clue
		for _, other := range kept {
			if other != k {
				clues = append(clues, p.Clues[other])
			}
		}
		if len(fitting(p.Guests, clues...)) == 1 {
			kept = slices.DeleteFunc(kept, func(other int) bool { return other == k })
		}
	}
	harder := impl.Puzzle{Guests: p.Guests}
	for _, k := range kept {
		harder.Clues = append(harder.Clues, p.Clues[k])
	}
	return harder
}

// checkClues holds all that is told of the clues of a puzzle against all exchanges.
func checkClues(t *testing.T, p impl.Puzzle) {
	t.Helper()
	what := " of " + puzzleText(p)
	needless, ok := impl.NeedlessClues(p)
	wantList(t, "NeedlessClues"+what, needless, ok, needlessIn(p)...)
	left, ok := impl.LeftByClues(p)
	wantList(t, "LeftByClues"+what, left, ok, leftBy(p)...)
	best, ok := impl.BestClue(p)
	if len(p.Clues) > 0 {
		wantNumber(t, "BestClue"+what, best, ok, bestIn(p))
	} else {
		wantNothing(t, "BestClue"+what, best, ok)
	}
	harder, ok := impl.HarderPuzzle(p)
	if len(fitting(p.Guests, p.Clues...)) == 1 {
		wantPuzzle(t, "HarderPuzzle"+what, harder, ok, hardened(p))
	} else {
		wantNothing(t, "HarderPuzzle"+what, harder, ok)
	}
}

func TestCluesOfSmallPuzzles(t *testing.T) {
	for _, p := range smallPuzzles() {
		checkClues(t, p)
	}
}

func TestCluesOfMixedPuzzles(t *testing.T) {
	for _, p := range mixedPuzzles(10) {
		checkClues(t, p)
	}
}

func TestCluesWrittenOut(t *testing.T) {
	for _, c := range toldPuzzles {
		p := puzzleOf(c.text)
		needless, ok := impl.NeedlessClues(p)
		wantList(t, "NeedlessClues of "+c.text, needless, ok, c.needless...)
		left, ok := impl.LeftByClues(p)
		wantList(t, "LeftByClues of "+c.text, left, ok, c.left...)
		best, ok := impl.BestClue(p)
		if c.best < 0 {
			wantNothing(t, "BestClue of "+c.text, best, ok)
		} else {
			wantNumber(t, "BestClue of "+c.text, best, ok, c.best)
		}
		harder, ok := impl.HarderPuzzle(p)
		if c.harder == "" {
			wantNothing(t, "HarderPuzzle of "+c.text, harder, ok)
		} else {
			wantPuzzle(t, "HarderPuzzle of "+c.text, harder, ok, puzzleOf(c.harder))
		}
	}
}

// TestHarderPuzzlesAreSolvedBySame calls for what the promise tells: harder puzzles are solved by the same exchange, and no clue of theirs is needless.
func TestHarderPuzzlesAreSolvedBySame(t *testing.T) {
	solved := 0
	for _, p := range mixedPuzzles(20) {
		harder, ok := impl.HarderPuzzle(p)
		if is, _ := impl.IsSolved(p); is != ok {
			t.Error("HarderPuzzle of", puzzleText(p), ok, "solved", is)
		}
		if !ok {
			continue
		}
		solved++
		what := puzzleText(p) + " made harder: " + puzzleText(harder)
		still, ok := impl.IsSolved(harder)
		wantBool(t, what, still, ok, true)
		first, ok := impl.FirstSolution(p)
		other, fine := impl.FirstSolution(harder)
		wantList(t, what, other, ok && fine, first...)
		needless, ok := impl.NeedlessClues(harder)
		wantList(t, what+", needless clues", needless, ok)
		again, ok := impl.HarderPuzzle(harder)
		wantPuzzle(t, what+" once more", again, ok, harder)
	}
	if solved < 300 {
		t.Error("just so many puzzles are solved:", solved)
	}
}

// TestNeedlessCluesByDropping holds them against the number of solutions of the puzzle that DropClue returns.
func TestNeedlessCluesByDropping(t *testing.T) {
	for _, p := range mixedPuzzles(4) {
		all, ok := impl.CountSolutions(p)
		needless, fine := impl.NeedlessClues(p)
		if !ok || !fine {
			t.Error("NeedlessClues fails:", puzzleText(p))
		}
		for k := range p.Clues {
			without, ok := impl.DropClue(p, k)
			count, fine := impl.CountSolutions(without)
			wantBool(t, fmt.Sprint("needless ", puzzleText(p), k), slices.Contains(needless, k), ok && fine, count == all)
		}
	}
}

// puzzlesToChange are small puzzles of few guests and mixed ones, among them all numbers of clues.
func puzzlesToChange() []impl.Puzzle {
	return slices.Concat(smallPuzzles()[:200], mixedPuzzles(4))
}

func TestCluesDropped(t *testing.T) {
	for _, p := range puzzlesToChange() {
		for k := range p.Clues {
			without, ok := impl.DropClue(p, k)
			wantPuzzle(t, fmt.Sprint("DropClue ", puzzleText(p), k), without, ok, impl.Puzzle{Guests: p.Guests, Clues: withoutOne(p.Clues, k)})
		}
	}
	p := puzzleOf("4:2.1.0,3.2.0,0.0.0,0.1.2,0.2.3,0.3.1")
	for k, want := range []string{"4:3.2.0,0.0.0,0.1.2,0.2.3,0.3.1", "4:2.1.0,0.0.0,0.1.2,0.2.3,0.3.1", "4:2.1.0,3.2.0,0.1.2,0.2.3,0.3.1", "4:2.1.0,3.2.0,0.0.0,0.2.3,0.3.1", "4:2.1.0,3.2.0,0.0.0,0.1.2,0.3.1", "4:2.1.0,3.2.0,0.0.0,0.1.2,0.2.3"} {
		without, ok := impl.DropClue(p, k)
		wantPuzzle(t, fmt.Sprint("DropClue ", k), without, ok, puzzleOf(want))
	}
	none, ok := impl.DropClue(puzzleOf("2:0.0.1"), 0)
	wantPuzzle(t, "DropClue of one", none, ok, impl.Puzzle{Guests: 2})
}

// TestCluesAdded has each clue that there is, behind each number of clues.
func TestCluesAdded(t *testing.T) {
	for _, p := range puzzlesToChange() {
		for _, c := range cluesOf(p.Guests)[:min(12, len(cluesOf(p.Guests)))] {
			checkAdded(t, p, c)
		}
	}
	for guests := 1; guests <= 5; guests++ {
		for _, c := range cluesOf(guests) {
			checkAdded(t, impl.Puzzle{Guests: guests}, c)
			checkAdded(t, impl.Puzzle{Guests: guests, Clues: slices.Repeat([]impl.Clue{c}, 5)}, c)
			checkAdded(t, impl.Puzzle{Guests: guests, Clues: slices.Repeat([]impl.Clue{c}, 6)}, c)
		}
	}
}

func checkAdded(t *testing.T, p impl.Puzzle, c impl.Clue) {
	t.Helper()
	what := fmt.Sprint("AddClue ", puzzleText(p), c)
	longer, ok := impl.AddClue(p, c)
	if len(p.Clues) == 6 {
		wantNothing(t, what, longer, ok)
		return
	}
	wantPuzzle(t, what, longer, ok, impl.Puzzle{Guests: p.Guests, Clues: append(slices.Clone(p.Clues), c)})
	back, ok := impl.DropClue(longer, len(p.Clues))
	wantPuzzle(t, what+" dropped", back, ok, p)
}

// TestLeftByCluesNeverGrow has all exchanges left by no clue, all solutions left by all clues, and never more by a clue more.
func TestLeftByCluesNeverGrow(t *testing.T) {
	for _, p := range mixedPuzzles(4) {
		left, ok := impl.LeftByClues(p)
		if !ok || len(left) != len(p.Clues)+1 || left[0] != product(p.Guests) {
			t.Error("LeftByClues", puzzleText(p), left, ok)
			continue
		}
		count, ok := impl.CountSolutions(p)
		wantNumber(t, "LeftByClues at last "+puzzleText(p), left[len(p.Clues)], ok, count)
		for k := range p.Clues {
			if left[k+1] > left[k] {
				t.Error("LeftByClues grow", puzzleText(p), left)
			}
		}
	}
}
