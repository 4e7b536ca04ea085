package tests

import (
	"fmt"
	"math"
	"slices"
	"strings"
	"testing"

	"loop.example/g01315/impl"
)

// deskLineCall returns the call of DeskLine with a desk of the first list and the text.
func deskLineCall(line string) anyCall {
	return anyCall{"DeskLine " + line, func(a, b []int, i, j int, s string) []any {
		return results(impl.DeskLine(impl.Desk{Coats: a, Board: s}, line))
	}}
}

// anyLines are lines that succeed, that fail, and that are none.
func anyLines() []string {
	return slices.Concat(goodLines, []string{"", "fly", "swap 0 0", "swap 0 999999", "forbid 0 0", "allow 8 8", "none 0", "with 1 2", "seat 0 0", "long 13 1", "coats 0,0", "board ..", "coats", "board", strings.Repeat(" ", 3000), strings.Repeat("x", 3001), "own\n"})
}

// TestNoDeskLinePanics has each line on desks and on those that are none.
func TestNoDeskLinePanics(t *testing.T) {
	for _, line := range anyLines() {
		c := deskLineCall(line)
		for _, d := range noDesks() {
			mustBeZero(t, c.name, tryCall(t, c, d.Coats, nil, 0, 0, d.Board))
		}
		for k, d := range manyDesks() {
			if k%5 == 0 {
				mustBeZero(t, c.name, tryCall(t, c, d.Coats, nil, 0, 0, d.Board))
			}
		}
	}
}

// TestNoLineOfNumbersPanics has any two numbers, of which lines tell just some.
func TestNoLineOfNumbersPanics(t *testing.T) {
	for _, name := range lineNames() {
		for _, i := range anyNumbers {
			for _, j := range anyNumbers {
				c := deskLineCall(fmt.Sprint(name, " ", i, " ", j))
				mustBeZero(t, c.name, tryCall(t, c, []int{1, 2, 0}, nil, 0, 0, "##./.##/#.#"))
			}
		}
	}
}

// TestNoScriptPanics has texts that are scripts and others, some of those with any text as a word.
func TestNoScriptPanics(t *testing.T) {
	texts := slices.Concat(noScripts(), anyTexts(), noPuzzleTexts(), hatTexts())
	for _, text := range slices.Clone(texts) {
		texts = append(texts, text+"\n", "coats "+text+"\n", "board "+text+"\ngo\n", "swap "+text+"\n", "seat 3 "+text+"\n")
	}
	for seed := range 40 {
		next := mixer(seed)
		signs := "\n\n\n   own swap 0123,./##\x00\xff"
		text := ""
		for range next(3000) {
			text += string(signs[next(len(signs))])
		}
		texts = append(texts, text, text+"\n")
	}
	for _, c := range consoleCalls() {
		for _, text := range texts {
			mustBeZero(t, c.name, tryCall(t, c, []int{1, 2, 0, 3}, nil, math.MaxInt, math.MinInt, text))
		}
	}
}

// TestDeskLinesKeepArguments looks at the Coats of a desk and the memory behind them, behind each line and behind writing into the desk that it returns.
func TestDeskLinesKeepArguments(t *testing.T) {
	for _, line := range anyLines() {
		for k, d := range manyDesks() {
			if k%3 != 0 {
				continue
			}
			want := fmt.Sprint(results(impl.DeskLine(impl.Desk{Coats: slices.Clip(slices.Clone(d.Coats)), Board: d.Board}, line)))
			for _, behind := range []int{0, len(d.Coats), -1} {
				coats, whole := roomy(d.Coats, behind)
				before := slices.Clone(whole)
				given := impl.Desk{Coats: coats, Board: d.Board}
				after, reply, ok := impl.DeskLine(given, line)
				if got := fmt.Sprint(results(after, reply, ok)); got != want {
					t.Errorf("DeskLine %v %.80q with %d behind: got %s, first %s", d, line, behind, got, want)
				}
				if !slices.Equal(whole, before) || given.Board != d.Board {
					t.Errorf("DeskLine %v %.80q writes into the desk", d, line)
				}
				fill(after.Coats)
				if !slices.Equal(whole, before) {
					t.Errorf("DeskLine %v %.80q gives out memory of the desk", d, line)
				}
			}
		}
	}
}

// TestDesksStay writes over desks and takes them again, so that no memory is kept between calls.
func TestDesksStay(t *testing.T) {
	first := impl.Desk{Coats: []int{1, 2, 0, 3}, Board: "##./.##/#.#"}
	for range 3 {
		d := impl.FirstDesk()
		wantDesk(t, "FirstDesk", d, true, first)
		fill(d.Coats)
		for _, script := range []string{"", "own\n", "fly\n", "swap 0 0\n", "board .\n", "coats 1,2,0,3\n", "swap 0 1\nswap 0 1\n"} {
			d, ok := impl.DeskAfter(script)
			if !ok || !slices.Equal(d.Coats, first.Coats) {
				t.Errorf("DeskAfter %q: got %v %v", script, d, ok)
			}
			fill(d.Coats)
		}
		given := impl.FirstDesk()
		after, _, ok := impl.DeskLine(given, "show")
		again, _, fine := impl.DeskLine(after, "show")
		fill(given.Coats)
		wantDesk(t, "DeskLine behind writing into the desk before it", after, ok, first)
		fill(after.Coats)
		wantDesk(t, "DeskLine behind writing into both desks before it", again, fine, first)
	}
}

// TestRepliesStay writes over replies and numbers of lines and takes them again.
func TestRepliesStay(t *testing.T) {
	script := scriptOf("own", "fly", "swap 0 0", "chains")
	for range 3 {
		replies, ok := impl.RunScript(script)
		wantTexts(t, "RunScript", replies, ok, "3", "what", "no", "0,1,2 3")
		fillTexts(replies)
		failed, ok := impl.FailedLines(script)
		wantList(t, "FailedLines", failed, ok, 2, 3)
		fill(failed)
	}
}
