package tests

import (
	"fmt"
	"slices"
	"strconv"
	"strings"
	"testing"

	"loop.example/g01315/impl"
)

// rowsUpTo returns all rows of one up to so many guests.
func rowsUpTo(guests, colours int) []string {
	var all []string
	for n := 1; n <= guests; n++ {
		all = append(all, hatsOf(n, colours)...)
	}
	return all
}

// longRows are rows of up to as many guests as there may be.
func longRows(colours int) []string {
	var all []string
	for _, guests := range []int{10, 17, 28, 29, 30} {
		for colour := range colours {
			all = append(all, strings.Repeat(strconv.Itoa(colour), guests))
		}
		for seed := range 8 {
			mixed := strings.Join(mixedPlan(4, colours, seed).Guesses, "")
			all = append(all, strings.Repeat(mixed, 2)[:guests])
		}
	}
	return all
}

// eachRow looks at all rows of few guests, and some of many.
func eachRow(look func(colours int, hats string)) {
	for colours, guests := range map[int]int{2: 9, 3: 6} {
		for _, hats := range append(rowsUpTo(guests, colours), longRows(colours)...) {
			look(colours, hats)
		}
	}
}

// TestRows lets the first one guess the sum of the others, and all others their hats.
func TestRows(t *testing.T) {
	eachRow(func(colours int, hats string) {
		guesses, ok := impl.RowGuesses(colours, hats)
		first := strconv.Itoa(colourSum(hats[1:]) % colours)
		wantText(t, fmt.Sprint("RowGuesses ", colours, " ", hats), guesses, ok, first+hats[1:])
		right, ok := impl.RightInRow(colours, hats)
		wants := inOrder(len(hats))
		if first != hats[:1] {
			wants = wants[1:]
		}
		wantList(t, fmt.Sprint("RightInRow ", colours, " ", hats), right, ok, wants...)
	})
}

// TestRowsAreHeard holds each guess in a row against what this guest hears and sees.
func TestRowsAreHeard(t *testing.T) {
	eachRow(func(colours int, hats string) {
		guesses, ok := impl.RowGuesses(colours, hats)
		if !ok || len(guesses) != len(hats) {
			t.Fatal("RowGuesses", colours, hats, guesses, ok)
		}
		for guest := 1; guest < len(hats); guest++ {
			colour, ok := impl.HeardInRow(colours, colourSum(guesses[:1]), hats[guest+1:], guesses[1:guest])
			wantNumber(t, fmt.Sprint("HeardInRow ", colours, hats, guest), colour, ok, colourSum(guesses[guest:guest+1]))
		}
	})
}

// TestHeard has all that few guests say and wear, and colours for which the sum is the one that was heard.
func TestHeard(t *testing.T) {
	for colours := 2; colours <= 3; colours++ {
		texts := append(rowsUpTo(3, colours), "", "0110", strings.Repeat("1", 30), strings.Repeat("01", 15), strings.Repeat(strconv.Itoa(colours-1), 29))
		for _, seen := range texts {
			for _, heard := range texts {
				for sum := range colours {
					want := slices.IndexFunc([]int{0, 1, 2}, func(colour int) bool { return (colour+colourSum(seen, heard))%colours == sum })
					colour, ok := impl.HeardInRow(colours, sum, seen, heard)
					wantNumber(t, fmt.Sprintf("HeardInRow %d %d %q %q", colours, sum, seen, heard), colour, ok, want)
				}
			}
		}
	}
}

func TestRowsWrittenOut(t *testing.T) {
	for _, c := range []struct {
		colours       int
		hats, guesses string
		right         []int
	}{
		{2, "1101", "0101", []int{1, 2, 3}}, {2, "0", "0", []int{0}}, {2, "1", "0", nil}, {3, "0", "0", []int{0}}, {3, "1", "0", nil}, {3, "2", "0", nil},
		{2, "01", "11", []int{1}}, {2, "11", "11", []int{0, 1}}, {3, "02", "22", []int{1}}, {3, "1222", "0222", []int{1, 2, 3}}, {3, "20122", "20122", inOrder(5)}, {3, "10", "00", []int{1}},
		{2, strings.Repeat("1", 30), strings.Repeat("1", 30), inOrder(30)}, {3, strings.Repeat("1", 30), "2" + strings.Repeat("1", 29), inOrder(30)[1:]}, {3, strings.Repeat("2", 30), "1" + strings.Repeat("2", 29), inOrder(30)[1:]},
	} {
		guesses, ok := impl.RowGuesses(c.colours, c.hats)
		wantText(t, fmt.Sprint("RowGuesses ", c.colours, " ", c.hats), guesses, ok, c.guesses)
		right, ok := impl.RightInRow(c.colours, c.hats)
		wantList(t, fmt.Sprint("RightInRow ", c.colours, " ", c.hats), right, ok, c.right...)
	}
	for _, c := range []struct {
		colours, sum int
		seen, heard  string
		want         int
	}{
		{2, 0, "", "", 0}, {2, 1, "", "", 1}, {3, 2, "", "", 2}, {2, 0, "01", "", 1}, {2, 0, "1", "1", 0}, {3, 0, "1", "", 2}, {3, 0, "", "1", 2}, {3, 0, "2", "2", 2}, {3, 1, "2", "", 2}, {3, 2, "11", "22", 2},
		{3, 0, strings.Repeat("2", 30), strings.Repeat("2", 30), 0}, {3, 1, strings.Repeat("2", 30), strings.Repeat("2", 29), 0}, {2, 1, strings.Repeat("1", 29), strings.Repeat("1", 30), 0},
	} {
		colour, ok := impl.HeardInRow(c.colours, c.sum, c.seen, c.heard)
		wantNumber(t, fmt.Sprintf("HeardInRow %d %d %q %q", c.colours, c.sum, c.seen, c.heard), colour, ok, c.want)
	}
}
