package tests

import (
	"fmt"
	"slices"
	"strconv"
	"strings"
	"testing"

	"loop.example/g01315/impl"
)

// hatsOf returns all texts of so many colours, in order, by no function of the program.
func hatsOf(guests, colours int) []string {
	if guests == 0 {
		return []string{""}
	}
	var all []string
	for _, first := range "012"[:colours] {
		for _, others := range hatsOf(guests-1, colours) {
			all = append(all, string(first)+others)
		}
	}
	return all
}

// eachGame looks at all numbers of guests and of colours that there may be.
func eachGame(look func(guests, colours int)) {
	for guests := 2; guests <= 4; guests++ {
		for colours := 2; colours <= 3; colours++ {
			look(guests, colours)
		}
	}
}

// numberIn returns the number that colours are read as.
func numberIn(seen string, colours int) int {
	number, err := strconv.ParseInt(seen, colours, 64)
	if err != nil {
		panic(err)
	}
	return int(number)
}

// withoutHat returns the hats that a guest sees.
func withoutHat(hats string, guest int) string {
	return hats[:guest] + hats[guest+1:]
}

// guessed returns the guesses of all guests by a plan.
func guessed(p impl.HatPlan, hats string) string {
	guesses := ""
	for guest, told := range p.Guesses {
		number := numberIn(withoutHat(hats, guest), p.Colours)
		guesses += told[number : number+1]
	}
	return guesses
}

// alike returns the places at which two texts have the same sign.
func alike(a, b string) []int {
	return slices.DeleteFunc(inOrder(len(a)), func(k int) bool { return a[k] != b[k] })
}

// colourSum returns the sum of the colours of some texts.
func colourSum(texts ...string) int {
	sum := 0
	for _, sign := range strings.Join(texts, "") {
		sum += strings.IndexRune("012", sign)
	}
	return sum
}

// planWhere returns the plan by which a guest who sees some hats guesses as told.
func planWhere(guests, colours int, guess func(guest int, seen string) int) impl.HatPlan {
	p := impl.HatPlan{Colours: colours}
	for guest := range guests {
		guesses := ""
		for _, seen := range hatsOf(guests-1, colours) {
			guesses += strconv.Itoa(guess(guest, seen) % colours)
		}
		p.Guesses = append(p.Guesses, guesses)
	}
	return p
}

// allHatPlans returns all plans of so many guests, of which there are few enough for 2 or 3 guests with 2 colours and 2 guests with 3.
func allHatPlans(guests, colours int) []impl.HatPlan {
	texts := hatsOf(len(hatsOf(guests-1, colours)), colours)
	lists := [][]string{nil}
	for range guests {
		var longer [][]string
		for _, list := range lists {
			for _, text := range texts {
				longer = append(longer, append(slices.Clone(list), text))
			}
		}
		lists = longer
	}
	var all []impl.HatPlan
	for _, list := range lists {
		all = append(all, impl.HatPlan{Colours: colours, Guesses: list})
	}
	return all
}

// fewHatPlans returns all plans for those numbers of guests and colours for which there are few.
func fewHatPlans() []impl.HatPlan {
	return slices.Concat(allHatPlans(2, 2), allHatPlans(3, 2), allHatPlans(2, 3))
}

// mixedPlan returns a plan of guesses by numbers that follow from each other without an order that the eye sees.
func mixedPlan(guests, colours, seed int) impl.HatPlan {
	z := seed
	return planWhere(guests, colours, func(int, string) int {
		z = (z*1103 + 12345) % 65521
		return z / 7
	})
}

// hatPlansOf returns plans of so many guests: by sums, all the same, by one hat that is seen, by the guest alone, and mixed ones.
func hatPlansOf(guests, colours int) []impl.HatPlan {
	plans := []impl.HatPlan{
		planWhere(guests, colours, func(guest int, seen string) int { return colourSum(seen) }),
		planWhere(guests, colours, func(guest int, seen string) int { return guest + (colours-1)*colourSum(seen) }),
		planWhere(guests, colours, func(guest int, seen string) int { return colourSum(seen[:1]) }),
		planWhere(guests, colours, func(guest int, seen string) int { return colourSum(seen[guests-2:]) + 1 }),
		planWhere(guests, colours, func(guest int, seen string) int { return guest }),
		planWhere(guests, colours, func(guest int, seen string) int { return guest * numberIn(seen, colours) }),
	}
	for colour := range colours {
		plans = append(plans, planWhere(guests, colours, func(int, string) int { return colour }))
	}
	for seed := range 12 {
		plans = append(plans, mixedPlan(guests, colours, seed))
	}
	return plans
}

// manyHatPlans returns some plans for all numbers of guests and colours.
func manyHatPlans() []impl.HatPlan {
	var all []impl.HatPlan
	eachGame(func(guests, colours int) { all = append(all, hatPlansOf(guests, colours)...) })
	return all
}

func samePlans(a, b impl.HatPlan) bool {
	return a.Colours == b.Colours && slices.Equal(a.Guesses, b.Guesses)
}

func wantPlan(t *testing.T, what string, got impl.HatPlan, ok bool, want impl.HatPlan) {
	t.Helper()
	if !ok || !samePlans(got, want) {
		t.Errorf("%s: got %v %v, want %v true", what, got, ok, want)
	}
}

func TestHatPlans(t *testing.T) {
	for _, p := range append(fewHatPlans(), manyHatPlans()...) {
		if !impl.IsHatPlan(p) {
			t.Error("no hat plan:", p)
		}
	}
}

// TestViewsAndGuesses has all hats, each guest and some plans.
func TestViewsAndGuesses(t *testing.T) {
	for _, p := range append(manyHatPlans(), allHatPlans(2, 2)...) {
		for _, hats := range hatsOf(len(p.Guesses), p.Colours) {
			for guest := range p.Guesses {
				number, ok := impl.ViewOf(p, hats, guest)
				wantNumber(t, fmt.Sprint("ViewOf ", p, hats, guest), number, ok, numberIn(withoutHat(hats, guest), p.Colours))
			}
			guesses, ok := impl.GuessesOf(p, hats)
			wantText(t, fmt.Sprint("GuessesOf ", p, hats), guesses, ok, guessed(p, hats))
			right, ok := impl.RightGuests(p, hats)
			wantList(t, fmt.Sprint("RightGuests ", p, hats), right, ok, alike(guessed(p, hats), hats)...)
		}
	}
}

func TestViewsAndGuessesWrittenOut(t *testing.T) {
	p := impl.HatPlan{Colours: 3, Guesses: []string{"012012012", "111222000", "210210021"}}
	for _, c := range []struct {
		hats    string
		views   [3]int
		guesses string
		right   []int
	}{
		{"000", [3]int{0, 0, 0}, "012", []int{0}}, {"012", [3]int{5, 2, 1}, "211", []int{1}}, {"210", [3]int{3, 6, 7}, "002", nil}, {"222", [3]int{8, 8, 8}, "201", []int{0}},
		{"001", [3]int{1, 1, 0}, "112", nil}, {"010", [3]int{3, 0, 1}, "011", []int{0, 1}}, {"100", [3]int{0, 3, 3}, "022", nil}, {"120", [3]int{6, 3, 5}, "020", []int{1, 2}}, {"011", [3]int{4, 1, 1}, "111", []int{1, 2}},
	} {
		for guest, want := range c.views {
			number, ok := impl.ViewOf(p, c.hats, guest)
			wantNumber(t, fmt.Sprint("ViewOf ", c.hats, guest), number, ok, want)
		}
		guesses, ok := impl.GuessesOf(p, c.hats)
		wantText(t, "GuessesOf "+c.hats, guesses, ok, c.guesses)
		right, ok := impl.RightGuests(p, c.hats)
		wantList(t, "RightGuests "+c.hats, right, ok, c.right...)
	}
}

// TestSumPlans holds the plans against sums of hats, and has as many right ones as told for all hats.
func TestSumPlans(t *testing.T) {
	eachGame(func(guests, colours int) {
		what := fmt.Sprint(" ", guests, colours)
		p, ok := impl.SumPlan(guests, colours)
		if !ok || !impl.IsHatPlan(p) || p.Colours != colours || len(p.Guesses) != guests {
			t.Fatal("SumPlan", what, p, ok)
		}
		for _, hats := range hatsOf(guests, colours) {
			for guest, guess := range guessed(p, hats) {
				if (colourSum(withoutHat(hats, guest), string(guess))-guest)%colours != 0 {
					t.Error("SumPlan", what, hats, guest, string(guess))
				}
			}
			right, ok := impl.RightGuests(p, hats)
			if !ok || len(right) < guests/colours {
				t.Error("right by SumPlan", what, hats, right, ok)
			}
			wantList(t, "right by SumPlan"+what+hats, right, ok, slices.DeleteFunc(inOrder(guests), func(guest int) bool { return colourSum(hats)%colours != guest%colours })...)
		}
	})
	for text, numbers := range map[string][2]int{"2:01:10": {2, 2}, "3:021:102": {2, 3}, "2:0110:1001:0110": {3, 2}, "2:01101001:10010110:01101001:10010110": {4, 2}, "3:021210102:102021210:210102021": {3, 3}} {
		p, ok := impl.SumPlan(numbers[0], numbers[1])
		wantText(t, fmt.Sprint("SumPlan ", numbers), strconv.Itoa(p.Colours)+":"+strings.Join(p.Guesses, ":"), ok, text)
	}
}

func TestSamePlans(t *testing.T) {
	eachGame(func(guests, colours int) {
		for colour := range colours {
			p, ok := impl.SamePlan(guests, colours, colour)
			what := fmt.Sprint("SamePlan ", guests, colours, colour)
			wantPlan(t, what, p, ok, planWhere(guests, colours, func(int, string) int { return colour }))
			for _, hats := range hatsOf(guests, colours) {
				guesses, ok := impl.GuessesOf(p, hats)
				wantText(t, "GuessesOf "+what+" "+hats, guesses, ok, strings.Repeat(strconv.Itoa(colour), guests))
			}
		}
	})
	p, ok := impl.SamePlan(2, 2, 0)
	wantPlan(t, "SamePlan 2 2 0", p, ok, impl.HatPlan{Colours: 2, Guesses: []string{"00", "00"}})
	p, ok = impl.SamePlan(4, 3, 2)
	wantPlan(t, "SamePlan 4 3 2", p, ok, impl.HatPlan{Colours: 3, Guesses: slices.Repeat([]string{strings.Repeat("2", 27)}, 4)})
}

// TestMaskedPlans has all masks, and holds the guesses by masked plans against those by the plans.
func TestMaskedPlans(t *testing.T) {
	for _, p := range append(manyHatPlans(), allHatPlans(2, 2)...) {
		guests := len(p.Guesses)
		for _, mask := range hatsOf(guests, p.Colours) {
			masked, ok := impl.MaskPlan(p, mask)
			what := fmt.Sprint("MaskPlan ", p, mask)
			wantPlan(t, what, masked, ok, planWhere(guests, p.Colours, func(guest int, seen string) int {
				number := numberIn(seen, p.Colours)
				return colourSum(p.Guesses[guest][number:number+1], mask[guest:guest+1])
			}))
			if !impl.IsHatPlan(masked) {
				t.Error(what, "is no plan:", masked)
			}
		}
	}
}

// TestGuessesByMaskedPlans calls for the guesses of both plans.
func TestGuessesByMaskedPlans(t *testing.T) {
	for _, p := range []impl.HatPlan{mixedPlan(2, 2, 5), mixedPlan(2, 3, 6), mixedPlan(3, 2, 7), mixedPlan(3, 3, 8), mixedPlan(4, 2, 9)} {
		for _, mask := range hatsOf(len(p.Guesses), p.Colours) {
			masked, ok := impl.MaskPlan(p, mask)
			for _, hats := range hatsOf(len(p.Guesses), p.Colours) {
				before, fine := impl.GuessesOf(p, hats)
				behind, does := impl.GuessesOf(masked, hats)
				want := ""
				for guest := range before {
					want += strconv.Itoa(colourSum(before[guest:guest+1], mask[guest:guest+1]) % p.Colours)
				}
				wantText(t, fmt.Sprint("masked guesses ", p, mask, hats), behind, ok && fine && does, want)
			}
		}
	}
}

// TestMasksOfOneColour has the colour 0, which changes nothing, and masks of the plans by which all guess the same.
func TestMasksOfOneColour(t *testing.T) {
	for _, p := range manyHatPlans() {
		masked, ok := impl.MaskPlan(p, strings.Repeat("0", len(p.Guesses)))
		wantPlan(t, fmt.Sprint("MaskPlan by 0 of ", p), masked, ok, p)
		back, ok := impl.MaskPlan(p, strings.Repeat("1", len(p.Guesses)))
		for range p.Colours - 1 {
			back, _ = impl.MaskPlan(back, strings.Repeat("1", len(p.Guesses)))
		}
		wantPlan(t, fmt.Sprint("MaskPlan by 1 again and again of ", p), back, ok, p)
	}
	eachGame(func(guests, colours int) {
		same, ok := impl.SamePlan(guests, colours, 1)
		other, fine := impl.SamePlan(guests, colours, 0)
		masked, does := impl.MaskPlan(same, strings.Repeat(strconv.Itoa(colours-1), guests))
		wantPlan(t, fmt.Sprint("MaskPlan of the same ", guests, colours), masked, ok && fine && does, other)
	})
	masked, ok := impl.MaskPlan(impl.HatPlan{Colours: 3, Guesses: []string{"012", "220"}}, "12")
	wantPlan(t, "MaskPlan 3:012:220 12", masked, ok, impl.HatPlan{Colours: 3, Guesses: []string{"120", "112"}})
}
