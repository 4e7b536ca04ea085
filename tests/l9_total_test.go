package tests

import (
	"fmt"
	"math"
	"slices"
	"testing"

	"loop.example/g01315/impl"
)

// puzzleCall is a call with a puzzle, and with a clue or an index if the function takes them.
type puzzleCall struct {
	name string
	call func(p impl.Puzzle, c impl.Clue, k int) []any
}

func puzzleCalls() []puzzleCall {
	return []puzzleCall{
		{"IsPuzzle", func(p impl.Puzzle, c impl.Clue, k int) []any { return results(impl.IsPuzzle(p)) }},
		{"Solutions", func(p impl.Puzzle, c impl.Clue, k int) []any { return results(impl.Solutions(p)) }},
		{"CountSolutions", func(p impl.Puzzle, c impl.Clue, k int) []any { return results(impl.CountSolutions(p)) }},
		{"FirstSolution", func(p impl.Puzzle, c impl.Clue, k int) []any { return results(impl.FirstSolution(p)) }},
		{"SureCoats", func(p impl.Puzzle, c impl.Clue, k int) []any { return results(impl.SureCoats(p)) }},
		{"IsSolved", func(p impl.Puzzle, c impl.Clue, k int) []any { return results(impl.IsSolved(p)) }},
		{"NeedlessClues", func(p impl.Puzzle, c impl.Clue, k int) []any { return results(impl.NeedlessClues(p)) }},
		{"DropClue", func(p impl.Puzzle, c impl.Clue, k int) []any { return results(impl.DropClue(p, k)) }},
		{"AddClue", func(p impl.Puzzle, c impl.Clue, k int) []any { return results(impl.AddClue(p, c)) }},
		{"LeftByClues", func(p impl.Puzzle, c impl.Clue, k int) []any { return results(impl.LeftByClues(p)) }},
		{"BestClue", func(p impl.Puzzle, c impl.Clue, k int) []any { return results(impl.BestClue(p)) }},
		{"HarderPuzzle", func(p impl.Puzzle, c impl.Clue, k int) []any { return results(impl.HarderPuzzle(p)) }},
		{"PuzzleText", func(p impl.Puzzle, c impl.Clue, k int) []any { return results(impl.PuzzleText(p)) }},
	}
}

func tryPuzzleCall(t *testing.T, c puzzleCall, p impl.Puzzle, clue impl.Clue, k int) []any {
	t.Helper()
	call := func(a, b []int, i, j int, s string) []any { return c.call(p, clue, k) }
	return tryCall(t, anyCall{c.name, call}, []int{p.Guests, len(p.Clues)}, []int{clue.Kind, clue.A, clue.B}, k, 0, "")
}

// TestNoPuzzleCallPanics has puzzles and lists that are no puzzles, each with clues and others and with any index.
func TestNoPuzzleCallPanics(t *testing.T) {
	clues := []impl.Clue{{}, {Kind: 1, A: 4, B: 4}, {Kind: 5, A: 6}, {Kind: -1}, {Kind: 7, A: 1}, {Kind: 0, A: math.MaxInt, B: math.MinInt}, {Kind: 4, A: 0, B: math.MaxInt}, {Kind: math.MinInt, A: math.MinInt, B: math.MinInt}}
	for _, c := range puzzleCalls() {
		for _, p := range slices.Concat(mixedPuzzles(1), noPuzzles()) {
			for _, k := range []int{0, 1, 5, 6, 7, -1, 1 << 32, math.MaxInt, math.MinInt} {
				mustBeZero(t, c.name, tryPuzzleCall(t, c, p, impl.Clue{}, k))
				if c.name != "DropClue" {
					break
				}
			}
			for _, clue := range clues {
				if c.name == "AddClue" {
					mustBeZero(t, c.name, tryPuzzleCall(t, c, p, clue, 0))
				}
			}
		}
	}
}

// TestNoClueCallPanics has all numbers in each place of a clue, with all numbers of guests and lists of as many.
func TestNoClueCallPanics(t *testing.T) {
	numbers := append([]int{0, 1, 2, 3, 4, 5}, wildNumbers...)
	for _, kind := range numbers {
		for _, a := range numbers {
			for _, b := range numbers {
				clue := impl.Clue{Kind: kind, A: a, B: b}
				c := anyCall{"IsClue", func(a, b []int, i, j int, s string) []any { return results(impl.IsClue(i, clue)) }}
				for _, guests := range []int{0, 1, 3, 5, 6, a} {
					tryCall(t, c, nil, nil, guests, 0, "")
				}
				c = anyCall{"DoesFit", func(a, b []int, i, j int, s string) []any { return results(impl.DoesFit(clue, a)) }}
				for _, list := range [][]int{nil, {0}, {1, 2, 0}, {4, 3, 2, 1, 0}, inOrder(6), {5, 5, 5}} {
					mustBeZero(t, c.name, tryCall(t, c, list, nil, 0, 0, ""))
				}
			}
		}
	}
}

// TestNoPuzzleTextCallPanics has texts that tell puzzles, and others.
func TestNoPuzzleTextCallPanics(t *testing.T) {
	texts := slices.Concat(noPuzzleTexts(), anyTexts(), hatTexts())
	for _, p := range slices.Concat(mixedPuzzles(1), noPuzzles()) {
		texts = append(texts, puzzleText(p))
	}
	for _, c := range puzzleNumberCalls() {
		for _, text := range texts {
			mustBeZero(t, c.name, tryCall(t, c, []int{1, 2, 0, 3}, nil, 3, 9999, text))
		}
	}
}

// roomyPuzzle returns a puzzle whose clues are at the beginning of an array with room behind it, and this array.
func roomyPuzzle(p impl.Puzzle, behind impl.Clue) (impl.Puzzle, []impl.Clue) {
	whole := append(slices.Clone(p.Clues), behind, behind, behind)
	return impl.Puzzle{Guests: p.Guests, Clues: whole[:len(p.Clues)]}, whole
}

// TestPuzzleCallsKeepArguments drops the first and the last clue, and adds one where there is room behind.
func TestPuzzleCallsKeepArguments(t *testing.T) {
	for _, c := range puzzleCalls() {
		for _, given := range slices.Concat(mixedPuzzles(2), smallPuzzles()[:60], noPuzzles()[:80]) {
			for _, k := range []int{0, max(0, len(given.Clues)-1), len(given.Clues) / 2} {
				keepsPuzzle(t, c, given, k)
			}
		}
	}
}

// keepsPuzzle looks at a puzzle and the memory behind its clues, and makes the same call with other memory there.
func keepsPuzzle(t *testing.T, c puzzleCall, given impl.Puzzle, k int) {
	t.Helper()
	clue := impl.Clue{Kind: 5, A: 1}
	want := c.call(impl.Puzzle{Guests: given.Guests, Clues: slices.Clip(slices.Clone(given.Clues))}, clue, k)
	text := fmt.Sprint(want)
	overwrite(want)
	for _, behind := range []impl.Clue{{}, {Kind: 2}, {Kind: 9, A: -1, B: 7}} {
		p, whole := roomyPuzzle(given, behind)
		before := slices.Clone(whole)
		got := c.call(p, clue, k)
		if fmt.Sprint(got) != text {
			t.Errorf("%s of %v with %v behind: first %s, then %v", c.name, given, behind, text, got)
		}
		if !slices.Equal(whole, before) {
			t.Errorf("%s writes into %v", c.name, given)
		}
		overwrite(got)
		if !slices.Equal(whole, before) {
			t.Errorf("%s gives out memory of %v", c.name, given)
		}
	}
}

// TestSolutionsShareNoMemory writes over each of all solutions in turn, behind its length too, and looks at the others.
func TestSolutionsShareNoMemory(t *testing.T) {
	for _, text := range []string{"5:", "4:", "1:", "4:3.1.0", "5:2.0.0", "5:5.6.0,4.0.1"} {
		p := puzzleOf(text)
		want := fitting(p.Guests, p.Clues...)
		solutions, ok := impl.Solutions(p)
		for k := range solutions {
			fill(solutions[k])
			if !equalLists(solutions[k+1:], want[k+1:]) {
				t.Fatal("Solutions of", text, "share memory with", want[k])
			}
		}
		again, fine := impl.Solutions(p)
		wantLists(t, "Solutions once more of "+text, again, ok && fine, want...)
	}
}

// TestPuzzlesStay writes over puzzles that were made or read, and makes or reads them again.
func TestPuzzlesStay(t *testing.T) {
	for text, call := range map[string]func() (impl.Puzzle, bool){
		"4:1.0.2,5.3.0,2.1.0,0.3.3": func() (impl.Puzzle, bool) { return impl.MakePuzzle([]int{1, 2, 0, 3}, 4, 0) },
		"3:2.0.0,0.0.1":             func() (impl.Puzzle, bool) { return impl.ParsePuzzle("3:2.0.0,0.0.1") },
	} {
		p, ok := call()
		fillClues(p.Clues)
		again, fine := call()
		wantPuzzle(t, "once more "+text, again, ok && fine, puzzleOf(text))
	}
}
