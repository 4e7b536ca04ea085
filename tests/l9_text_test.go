package tests

import (
	"fmt"
	"regexp"
	"slices"
	"strings"
	"testing"

	"loop.example/g01315/impl"
)

// puzzleTextsAre tells all texts of puzzles but for the numbers of a clue that its kind may not have: no number has two digits.
var puzzleTextsAre = regexp.MustCompile(`\A[1-5]:([0-5]\.[0-6]\.[0-4](,[0-5]\.[0-6]\.[0-4]){0,5})?\z`)

// isPuzzleText reports whether a text tells a puzzle.
func isPuzzleText(text string) bool {
	if !puzzleTextsAre.MatchString(text) {
		return false
	}
	p := puzzleOf(text)
	are := cluesOf(p.Guests)
	return !slices.ContainsFunc(p.Clues, func(c impl.Clue) bool { return !slices.Contains(are, c) })
}

// checkPuzzleText requires that a text is read if it tells a puzzle, and otherwise not.
func checkPuzzleText(t *testing.T, text string) {
	t.Helper()
	read, ok := impl.ParsePuzzle(text)
	if !isPuzzleText(text) {
		wantNothing(t, fmt.Sprintf("ParsePuzzle %.80q", text), read, ok)
		return
	}
	wantPuzzle(t, "ParsePuzzle "+text, read, ok, puzzleOf(text))
}

// TestPuzzleTexts has all small puzzles and many others, and reads their texts back.
func TestPuzzleTexts(t *testing.T) {
	for _, p := range append(smallPuzzles(), mixedPuzzles(15)...) {
		text, ok := impl.PuzzleText(p)
		wantText(t, "PuzzleText "+puzzleText(p), text, ok, puzzleText(p))
		read, ok := impl.ParsePuzzle(text)
		wantPuzzle(t, "ParsePuzzle "+text, read, ok, p)
	}
}

func TestPuzzleTextsWrittenOut(t *testing.T) {
	for text, want := range map[string]impl.Puzzle{
		"1:":                                    {Guests: 1},
		"5:":                                    {Guests: 5, Clues: []impl.Clue{}},
		"1:5.6.0":                               {Guests: 1, Clues: []impl.Clue{{Kind: 5, A: 6, B: 0}}},
		"3:2.0.0,0.0.1":                         {Guests: 3, Clues: []impl.Clue{{Kind: 2, A: 0, B: 0}, {Kind: 0, A: 0, B: 1}}},
		"4:4.3.1,4.3.0":                         {Guests: 4, Clues: []impl.Clue{{Kind: 4, A: 3, B: 1}, {Kind: 4, A: 3, B: 0}}},
		"5:0.4.3,1.2.1,2.5.0,3.1.0,4.0.1,5.4.0": {Guests: 5, Clues: []impl.Clue{{Kind: 0, A: 4, B: 3}, {Kind: 1, A: 2, B: 1}, {Kind: 2, A: 5}, {Kind: 3, A: 1}, {Kind: 4, A: 0, B: 1}, {Kind: 5, A: 4}}},
	} {
		read, ok := impl.ParsePuzzle(text)
		wantPuzzle(t, "ParsePuzzle "+text, read, ok, want)
		back, ok := impl.PuzzleText(want)
		wantText(t, fmt.Sprint("PuzzleText ", want), back, ok, text)
	}
}

// TestShortTextsOfPuzzles has all texts of few signs, up to the length of a puzzle with one clue.
func TestShortTextsOfPuzzles(t *testing.T) {
	texts := []string{""}
	for k := 0; k < len(texts); k++ {
		checkPuzzleText(t, texts[k])
		for _, sign := range "0125:.," {
			// Beyond a few signs just those texts are gone on with that begin as one of a puzzle does.
			if longer := texts[k] + string(sign); len(longer) < 5 || len(longer) < 8 && longer[0] == '2' && longer[1] == ':' {
				texts = append(texts, longer)
			}
		}
	}
}

// TestTextsOfPuzzlesChanged has texts of puzzles with one sign taken out, put in or changed.
func TestTextsOfPuzzlesChanged(t *testing.T) {
	for _, p := range append(mixedPuzzles(2), puzzleOf("5:0.4.3,1.2.1,2.5.0,3.1.0,4.0.1,5.4.0"), puzzleOf("5:5.6.0,3.5.0,2.5.0,1.4.4,0.4.4,4.4.0")) {
		text := puzzleText(p)
		for at := range len(text) + 1 {
			for _, sign := range []string{"", "0", "1", "4", "5", "6", "7", ":", ".", ",", " ", "+", "-", "\n", "\x00", "\xff", "٠"} {
				checkPuzzleText(t, text[:at]+sign+text[at:])
				if at < len(text) {
					checkPuzzleText(t, text[:at]+sign+text[at+1:])
				}
			}
		}
	}
}

// noPuzzleTexts are texts that tell no puzzle.
func noPuzzleTexts() []string {
	all := []string{
		"", ":", "::", ",", ".", "3", "3::", ":3", "3:,", "3:.", "3:..", "3:0", "3:0.0", "3:0.0.", "3:.0.0", "3:0..0", "3:0.0.0.", "3:0.0.0.0", "3:0.0.0,", "3:,0.0.0", "3:0.0.0,,0.0.0", "3:0.0.0:", "3::0.0.0", ":3:0.0.0", "3:0.0.0:0.0.0", "3:0.0.0:3", "3.0.0.0", "3,0.0.0", "0.0.0", "0.0.0:3", ":0.0.0",
		"3;0.0.0", "3 0.0.0", "3:0,0,0", "3:0:0:0", "3:0 0 0", "3:000", "3:0.0.0 ", " 3:0.0.0", "3: 0.0.0", "3 :0.0.0", "3:0.0.0\n", "3:0.0.0\x00", "3:0.0.0,0.0.1 ", "3:0.0.0, 0.0.1", "3:0.0.0;0.0.1", "3:0.0.0.0.0.1", "3: ", "3:\n", "3:\x00", " 3:", "3 ",
		"03:0.0.0", "+3:0.0.0", "-3:0.0.0", "3.0:0.0.0", "0x3:0.0.0", "3e0:0.0.0", "3_:0.0.0", "٣:0.0.0", "３:0.0.0", "three:0.0.0", "03:", "+3:", "-3:", "-0:", "3:00.0.0", "3:0.00.0", "3:0.0.00", "3:01.0.0", "3:0.01.0", "3:0.0.01", "3:+0.0.0", "3:0.+0.0", "3:0.0.+0", "3:-0.0.0", "3:0.-0.0", "3:0.0.-0", "3:0x0.0.0", "3:0.0x1.0", "3:0.0.1_", "3:0.٠.0", "3:0.0.０", "3:a.0.0", "3:0.b.0", "3:0.0.c", "3:0.0.é", "3:0.0.\xff",
		"0:", "6:", "7:", "10:", "12:", "-1:", "0:0.0.0", "6:0.0.0", "6:2.0.0", "6:5.1.0", "-1:2.0.0", "259:0.0.0", "4294967299:0.0.0", "18446744073709551619:0.0.0", "18446744073709551619:", "-9223372036854775808:", "9223372036854775807:", "99999999999999999999999:0.0.0",
		"3:6.0.0", "3:6.1.0", "3:9.0.0", "3:-1.0.0", "3:10.0.0", "3:256.0.0", "3:4294967296.0.0", "3:18446744073709551616.0.0", "3:0.3.0", "3:0.0.3", "3:0.-1.0", "3:0.0.-1", "3:1.3.0", "3:1.0.3", "3:0.256.0", "3:0.0.4294967296", "3:2.4.0", "3:2.-1.0", "3:2.0.1", "3:2.1.-1", "3:3.0.0", "3:3.4.0", "3:3.1.1", "3:4.3.0", "3:4.0.2", "3:4.0.-1", "3:4.-1.1", "3:5.0.0", "3:5.7.0", "3:5.1.1", "3:5.-1.0", "1:0.0.1", "1:0.1.0", "1:1.0.1", "1:4.1.0", "1:2.2.0", "1:3.2.0", "5:0.5.0", "5:0.0.5", "5:2.6.0", "5:3.6.0", "5:4.5.0", "5:5.7.0", "5:5.10.0", "5:5.60.0",
		"2:0.0.0,0.0.1,0.0.2", "2:0.0.0,0.0.1,7.0.0", "2:9.9.9,0.0.0", "1:1.0.0,6.0.0", "3:0.0.1,0.0.2,0.3.0",
		"3:2.0.0,2.0.0,2.0.0,2.0.0,2.0.0,2.0.0,2.0.0", "3:2.0.0,2.0.0,2.0.0,2.0.0,2.0.0,2.0.0,", "3:2.0.0,2.0.0,2.0.0,2.0.0,2.0.0,2.0.0,,", "3:2.0.0,2.0.0,2.0.0,2.0.0,2.0.0,2.0.0,2.0.0,2.0.0", "3:,,,,,,", "3:2.0.0,2.0.0,2.0.0,2.0.0,2.0.0,,2.0.0",
		"1,2,0,3", "##./.##/#.#", "0011", "2:01:10",
	}
	return append(all, strings.Repeat(":", 1000), strings.Repeat("3", 1000)+":", "3:"+strings.Repeat("0", 1000)+".0.0", "3:"+strings.Repeat("2.0.0,", 1000)+"2.0.0", "3:2"+strings.Repeat(".0", 1000), "3:"+strings.Repeat(",", 1<<16), "3:"+strings.Repeat(".", 1<<16), strings.Repeat("0", 1000)+"3:2.0.0", "3:2.0."+strings.Repeat("0", 1<<16))
}

func TestTextsThatAreNoPuzzles(t *testing.T) {
	for _, text := range noPuzzleTexts() {
		read, ok := impl.ParsePuzzle(text)
		wantNothing(t, fmt.Sprintf("ParsePuzzle %.80q", text), read, ok)
	}
}
