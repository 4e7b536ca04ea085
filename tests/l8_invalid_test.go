package tests

import (
	"fmt"
	"math"
	"slices"
	"strings"
	"testing"

	"loop.example/g01315/impl"
)

// someHatPlans are one plan for each number of guests and of colours.
func someHatPlans() []impl.HatPlan {
	var all []impl.HatPlan
	eachGame(func(guests, colours int) { all = append(all, mixedPlan(guests, colours, 3)) })
	return all
}

// noGuesses are texts that tell no guesses for so many views: too short or too long, with other signs and with colours that there are none of.
func noGuesses(views, colours int) []string {
	right := strings.Repeat("1", views)
	all := []string{"", right[1:], right + "0", right + right, strings.Repeat("0", views/colours), strings.Repeat("0", views*colours), strings.Repeat("0", 1000), strings.Repeat("0", 1<<16), right[1:] + "é", right[:views-2] + "٠", right[:views-2] + "\xff\xff", strings.Repeat("\xff", views)}
	signs := []string{"012"[colours-1:colours] + "0", string(rune('0' + colours)), "9", "/", ":", "-", "+", " ", "a", "\x00", "\x01", "\n", "\xff", "\x80", "\xb0"}
	for _, sign := range signs {
		for _, at := range []int{0, 1, views - 1} {
			all = append(all, right[:at]+sign+right[at+1:])
		}
	}
	return all
}

// noHatPlans are plans that are none: with other numbers of colours or of guests, and with texts that are no guesses.
func noHatPlans() []impl.HatPlan {
	all := []impl.HatPlan{{}, {Colours: 2}, {Colours: 3}, {Guesses: []string{"01", "10"}}, {Colours: 2, Guesses: []string{}}, {Colours: 2, Guesses: []string{"01:10"}}, {Colours: 2, Guesses: []string{"01", "10:01"}}, {Colours: 2, Guesses: []string{"0", "1"}}, {Colours: 2, Guesses: []string{"0"}}, {Colours: 2, Guesses: []string{""}}, {Colours: 2, Guesses: []string{"", ""}},
		{Colours: 1, Guesses: []string{"0", "0"}}, {Colours: 1, Guesses: []string{"0", "0", "0"}}, {Colours: 4, Guesses: []string{"0123", "0123"}}, {Colours: 4, Guesses: []string{"0000", "0000"}}, {Colours: 10, Guesses: []string{"0123456789", "0123456789"}}, {Colours: 0, Guesses: []string{"", ""}}, {Colours: -2, Guesses: []string{"01", "10"}},
		{Colours: 2, Guesses: slices.Repeat([]string{strings.Repeat("0", 16)}, 5)}, {Colours: 3, Guesses: slices.Repeat([]string{strings.Repeat("0", 81)}, 5)}, {Colours: 2, Guesses: make([]string, 4)}, {Colours: 2, Guesses: make([]string, 1000)}, {Colours: 2, Guesses: slices.Repeat([]string{"01"}, 1<<16)}, {Colours: 3, Guesses: []string{"0"}}, {Colours: 3, Guesses: []string{"012"}}}
	for _, p := range someHatPlans() {
		for _, colours := range []int{-1, 0, 1, 4, 5, -p.Colours, p.Colours + 256, p.Colours + 1<<32, math.MaxInt, math.MinInt, 5 - p.Colours} {
			all = append(all, impl.HatPlan{Colours: colours, Guesses: p.Guesses})
		}
		all = append(all, impl.HatPlan{Colours: p.Colours, Guesses: p.Guesses[1:]}, impl.HatPlan{Colours: p.Colours, Guesses: append(slices.Clone(p.Guesses), p.Guesses[0])}, impl.HatPlan{Colours: p.Colours, Guesses: p.Guesses[:1]})
		for guest, guesses := range p.Guesses {
			for _, text := range noGuesses(len(guesses), p.Colours) {
				bad := slices.Clone(p.Guesses)
				bad[guest] = text
				all = append(all, impl.HatPlan{Colours: p.Colours, Guesses: bad})
			}
		}
	}
	return all
}

// noPlanAt requires of each function of a hat plan that it fails.
func noPlanAt(t *testing.T, p impl.HatPlan) {
	t.Helper()
	what := fmt.Sprintf(" of %.200q", fmt.Sprint(p))
	if impl.IsHatPlan(p) {
		t.Error("a hat plan:", what)
	}
	for guests := range 6 {
		noHatsAt(t, p, strings.Repeat("0", guests))
	}
	least, ok := impl.LeastRight(p)
	wantNothing(t, "LeastRight"+what, least, ok)
	most, ok := impl.MostRight(p)
	wantNothing(t, "MostRight"+what, most, ok)
	counts, ok := impl.CountByRight(p)
	wantNothing(t, "CountByRight"+what, counts, ok)
	worst, ok := impl.WorstHats(p)
	wantNothing(t, "WorstHats"+what, worst, ok)
	text, ok := impl.HatPlanText(p)
	wantNothing(t, "HatPlanText"+what, text, ok)
}

// noHatsAt requires of each function of a hat plan and of hats that it fails, by a mask too.
func noHatsAt(t *testing.T, p impl.HatPlan, hats string) {
	t.Helper()
	what := fmt.Sprintf(" of %.200q %.80q", fmt.Sprint(p), hats)
	number, ok := impl.ViewOf(p, hats, 0)
	wantNothing(t, "ViewOf"+what, number, ok)
	guesses, ok := impl.GuessesOf(p, hats)
	wantNothing(t, "GuessesOf"+what, guesses, ok)
	right, ok := impl.RightGuests(p, hats)
	wantNothing(t, "RightGuests"+what, right, ok)
	masked, ok := impl.MaskPlan(p, hats)
	wantNothing(t, "MaskPlan"+what, masked, ok)
}

func TestPlansThatAreNoHatPlans(t *testing.T) {
	for _, p := range noHatPlans() {
		noPlanAt(t, p)
	}
}

// TestHatsOfOtherTexts has hats and masks of another length and with other signs.
func TestHatsOfOtherTexts(t *testing.T) {
	for _, p := range someHatPlans() {
		guests := len(p.Guesses)
		for _, hats := range noGuesses(guests, p.Colours) {
			noHatsAt(t, p, hats)
		}
		for length := range 9 {
			if length != guests {
				noHatsAt(t, p, strings.Repeat("1", length))
			}
		}
		for _, hats := range append(hatsOf(guests-1, p.Colours), hatsOf(guests+1, p.Colours)...) {
			noHatsAt(t, p, hats)
		}
		for _, hats := range hatsOf(guests, 3) {
			if p.Colours == 2 && strings.Contains(hats, "2") {
				noHatsAt(t, p, hats)
			}
		}
	}
}

// TestViewsOfOtherGuests has guests that there are none of.
func TestViewsOfOtherGuests(t *testing.T) {
	for _, p := range someHatPlans() {
		hats := strings.Repeat("1", len(p.Guesses))
		for _, guest := range noNumbersOf(len(p.Guesses)) {
			number, ok := impl.ViewOf(p, hats, guest)
			wantNothing(t, fmt.Sprint("ViewOf ", p, hats, guest), number, ok)
		}
	}
}

// hatNumbers are numbers of guests, of colours and of what is told by a number, those that there are and others.
var hatNumbers = []int{-1, -2, -3, 0, 1, 2, 3, 4, 5, 6, 12, 13, 30, 31, 256 + 2, 256 + 3, 1 << 32, 1<<32 + 2, -1 << 32, math.MaxInt, math.MinInt, math.MaxInt - 1, math.MinInt + 2, math.MinInt + 3}

func isGame(guests, colours int) bool {
	return guests >= 2 && guests <= 4 && colours >= 2 && colours <= 3
}

// TestNumbersOfGuestsAndColours calls each function with numbers that there are for it and with others.
func TestNumbersOfGuestsAndColours(t *testing.T) {
	for _, guests := range hatNumbers {
		for _, colours := range hatNumbers {
			what := fmt.Sprint(" ", guests, " ", colours)
			wantOnly(t, "SumPlan"+what, isGame(guests, colours), results(impl.SumPlan(guests, colours))...)
			wantOnly(t, "BestLeast"+what, isGame(guests, colours), results(impl.BestLeast(guests, colours))...)
			for _, colour := range hatNumbers {
				is := isGame(guests, colours) && colour >= 0 && colour < colours
				wantOnly(t, fmt.Sprint("SamePlan", what, " ", colour), is, results(impl.SamePlan(guests, colours, colour))...)
			}
		}
	}
}

// noRows are texts that are no hats in a row of so many colours.
func noRows(colours int) []string {
	other := string(rune('0' + colours))
	all := []string{"", strings.Repeat("0", 31), strings.Repeat("1", 31), strings.Repeat("01", 16), strings.Repeat("1", 1000), strings.Repeat("0", 1<<16)}
	for _, sign := range []string{other, "9", "/", ":", "-", "+", " ", ",", "a", "\x00", "\x01", "\n", "\xff", "\x80", "\xb0", "é", "٠", "０"} {
		all = append(all, sign, sign+"0", "1"+sign, "0"+sign+"1", "011"+sign, strings.Repeat("1", 29)+sign, sign+strings.Repeat("0", 28))
	}
	return all
}

func noRow(t *testing.T, colours int, hats string) {
	t.Helper()
	what := fmt.Sprintf(" %d %.80q", colours, hats)
	guesses, ok := impl.RowGuesses(colours, hats)
	wantNothing(t, "RowGuesses"+what, guesses, ok)
	right, ok := impl.RightInRow(colours, hats)
	wantNothing(t, "RightInRow"+what, right, ok)
}

func noHeard(t *testing.T, colours, sum int, seen, heard string) {
	t.Helper()
	colour, ok := impl.HeardInRow(colours, sum, seen, heard)
	wantNothing(t, fmt.Sprintf("HeardInRow %d %d %.80q %.80q", colours, sum, seen, heard), colour, ok)
}

// TestTextsThatAreNoRows has the same texts as hats that are seen and as guesses that are heard; these alone may be empty.
func TestTextsThatAreNoRows(t *testing.T) {
	for colours := 2; colours <= 3; colours++ {
		for _, hats := range noRows(colours) {
			noRow(t, colours, hats)
			if hats == "" {
				continue
			}
			for _, other := range []string{"", "1", "010", strings.Repeat("1", 30), hats} {
				noHeard(t, colours, 1, hats, other)
				noHeard(t, colours, 1, other, hats)
			}
		}
		for length := range 40 {
			hats := strings.Repeat("1", length)
			wantOnly(t, fmt.Sprint("RowGuesses of guests ", length), length >= 1 && length <= 30, results(impl.RowGuesses(colours, hats))...)
			wantOnly(t, fmt.Sprint("RightInRow of guests ", length), length >= 1 && length <= 30, results(impl.RightInRow(colours, hats))...)
			wantOnly(t, fmt.Sprint("HeardInRow who sees ", length), length <= 30, results(impl.HeardInRow(colours, 1, hats, ""))...)
			wantOnly(t, fmt.Sprint("HeardInRow who hears ", length), length <= 30, results(impl.HeardInRow(colours, 1, "", hats))...)
		}
	}
}

// TestRowsOfOtherColoursAndSums has numbers of colours that there are none of, and sums that tell no colour.
func TestRowsOfOtherColoursAndSums(t *testing.T) {
	for _, colours := range hatNumbers {
		are := colours == 2 || colours == 3
		for _, hats := range []string{"0", "1", "00", "01", "0110", strings.Repeat("0", 30)} {
			wantOnly(t, fmt.Sprint("RowGuesses ", colours, hats), are, results(impl.RowGuesses(colours, hats))...)
			wantOnly(t, fmt.Sprint("RightInRow ", colours, hats), are, results(impl.RightInRow(colours, hats))...)
			for _, sum := range hatNumbers {
				wantOnly(t, fmt.Sprint("HeardInRow ", colours, sum, hats), are && sum >= 0 && sum < colours, results(impl.HeardInRow(colours, sum, hats, ""))...)
				wantOnly(t, fmt.Sprint("HeardInRow ", colours, sum, hats), are && sum >= 0 && sum < colours, results(impl.HeardInRow(colours, sum, "", hats))...)
			}
		}
	}
}
