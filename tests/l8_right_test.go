package tests

import (
	"fmt"
	"slices"
	"testing"

	"loop.example/g01315/impl"
)

// rightOver returns for all hats, in order, how many guests are right by a plan.
func rightOver(p impl.HatPlan) []int {
	var numbers []int
	for _, hats := range hatsOf(len(p.Guesses), p.Colours) {
		numbers = append(numbers, len(alike(guessed(p, hats), hats)))
	}
	return numbers
}

// checkRight holds all that is told of right guests over all hats against these.
func checkRight(t *testing.T, p impl.HatPlan) {
	t.Helper()
	what := fmt.Sprint(" ", p)
	numbers := rightOver(p)
	wants := make([]int, len(p.Guesses)+1)
	for _, number := range numbers {
		wants[number]++
	}
	counts, ok := impl.CountByRight(p)
	wantList(t, "CountByRight"+what, counts, ok, wants...)
	least, ok := impl.LeastRight(p)
	wantNumber(t, "LeastRight"+what, least, ok, slices.Min(numbers))
	most, ok := impl.MostRight(p)
	wantNumber(t, "MostRight"+what, most, ok, slices.Max(numbers))
	worst, ok := impl.WorstHats(p)
	wantText(t, "WorstHats"+what, worst, ok, hatsOf(len(p.Guesses), p.Colours)[slices.Index(numbers, slices.Min(numbers))])
}

// TestRightOverAllHats has all plans where there are few of them, and some of all others.
func TestRightOverAllHats(t *testing.T) {
	for _, p := range append(fewHatPlans(), manyHatPlans()...) {
		checkRight(t, p)
	}
}

// TestCountsByRightAddUp has counts that add up to all hats, and right guests that add up to one part in colours of all, whatever the plan.
func TestCountsByRightAddUp(t *testing.T) {
	for _, p := range manyHatPlans() {
		counts, ok := impl.CountByRight(p)
		hats, right := 0, 0
		for number, count := range counts {
			hats += count
			right += number * count
		}
		all := len(hatsOf(len(p.Guesses), p.Colours))
		wantNumber(t, fmt.Sprint("hats by CountByRight ", p), hats, ok, all)
		wantNumber(t, fmt.Sprint("right ones by CountByRight ", p), right*p.Colours, ok, all*len(p.Guesses))
	}
}

// TestRightByCalls holds the numbers over all hats against calls of RightGuests.
func TestRightByCalls(t *testing.T) {
	for _, p := range manyHatPlans() {
		counts, ok := impl.CountByRight(p)
		least, fine := impl.LeastRight(p)
		most, does := impl.MostRight(p)
		worst, is := impl.WorstHats(p)
		if !ok || !fine || !does || !is {
			t.Fatal("a call fails for", p)
		}
		for _, hats := range hatsOf(len(p.Guesses), p.Colours) {
			right, ok := impl.RightGuests(p, hats)
			counts[len(right)]--
			if !ok || len(right) < least || len(right) > most || hats < worst && len(right) == least || hats == worst && len(right) != least {
				t.Error("right ones", p, hats, right, "least", least, "most", most, "worst", worst)
			}
		}
		wantList(t, fmt.Sprint("counts left over ", p), counts, true, make([]int, len(p.Guesses)+1)...)
	}
}

func TestRightOverAllHatsWrittenOut(t *testing.T) {
	for _, c := range []struct {
		p           impl.HatPlan
		counts      []int
		least, most int
		worst       string
	}{
		{impl.HatPlan{Colours: 2, Guesses: []string{"01", "10"}}, []int{0, 4, 0}, 1, 1, "00"},
		{impl.HatPlan{Colours: 2, Guesses: []string{"00", "00"}}, []int{1, 2, 1}, 0, 2, "11"},
		{impl.HatPlan{Colours: 2, Guesses: []string{"11", "11"}}, []int{1, 2, 1}, 0, 2, "00"},
		{impl.HatPlan{Colours: 2, Guesses: []string{"01", "01"}}, []int{2, 0, 2}, 0, 2, "01"},
		{impl.HatPlan{Colours: 3, Guesses: []string{"000", "000"}}, []int{4, 4, 1}, 0, 2, "11"},
		{impl.HatPlan{Colours: 3, Guesses: []string{"021", "102"}}, []int{3, 6, 0}, 0, 1, "02"},
		{impl.HatPlan{Colours: 2, Guesses: []string{"0000", "0000", "0000"}}, []int{1, 3, 3, 1}, 0, 3, "111"},
		{impl.HatPlan{Colours: 2, Guesses: []string{"0110", "1001", "0110"}}, []int{0, 4, 4, 0}, 1, 2, "001"},
		{impl.HatPlan{Colours: 3, Guesses: []string{"021210102", "102021210", "210102021"}}, []int{0, 27, 0, 0}, 1, 1, "000"},
	} {
		what := fmt.Sprint(" ", c.p)
		counts, ok := impl.CountByRight(c.p)
		wantList(t, "CountByRight"+what, counts, ok, c.counts...)
		least, ok := impl.LeastRight(c.p)
		wantNumber(t, "LeastRight"+what, least, ok, c.least)
		most, ok := impl.MostRight(c.p)
		wantNumber(t, "MostRight"+what, most, ok, c.most)
		worst, ok := impl.WorstHats(c.p)
		wantText(t, "WorstHats"+what, worst, ok, c.worst)
	}
}

// TestRightAtTheLimits has as many guests as there may be: by one colour, and by sums.
func TestRightAtTheLimits(t *testing.T) {
	for _, c := range []struct {
		colours     int
		same, sum   []int
		least, most int
		worst       string
	}{
		{2, []int{1, 4, 6, 4, 1}, []int{0, 0, 16, 0, 0}, 2, 2, "0000"},
		{3, []int{16, 32, 24, 8, 1}, []int{0, 54, 27, 0, 0}, 1, 2, "0001"},
	} {
		same, ok := impl.SamePlan(4, c.colours, 0)
		counts, fine := impl.CountByRight(same)
		wantList(t, fmt.Sprint("CountByRight of the same ", c.colours), counts, ok && fine, c.same...)
		sum, ok := impl.SumPlan(4, c.colours)
		counts, fine = impl.CountByRight(sum)
		wantList(t, fmt.Sprint("CountByRight by sums ", c.colours), counts, ok && fine, c.sum...)
		least, ok := impl.LeastRight(sum)
		wantNumber(t, fmt.Sprint("LeastRight by sums ", c.colours), least, ok, c.least)
		most, ok := impl.MostRight(sum)
		wantNumber(t, fmt.Sprint("MostRight by sums ", c.colours), most, ok, c.most)
		worst, ok := impl.WorstHats(sum)
		wantText(t, fmt.Sprint("WorstHats by sums ", c.colours), worst, ok, c.worst)
	}
}

// TestBestLeast has no plan that is better, where all are looked at, and the plan by sums as good.
func TestBestLeast(t *testing.T) {
	for _, numbers := range [][2]int{{2, 2}, {3, 2}, {2, 3}} {
		greatest := 0
		for _, p := range allHatPlans(numbers[0], numbers[1]) {
			greatest = max(greatest, slices.Min(rightOver(p)))
		}
		best, ok := impl.BestLeast(numbers[0], numbers[1])
		wantNumber(t, fmt.Sprint("BestLeast ", numbers), best, ok, greatest)
	}
	for _, p := range manyHatPlans() {
		best, ok := impl.BestLeast(len(p.Guesses), p.Colours)
		least, fine := impl.LeastRight(p)
		if !ok || !fine || least > best {
			t.Error("LeastRight", p, least, fine, "BestLeast", best, ok)
		}
	}
	eachGame(func(guests, colours int) {
		best, ok := impl.BestLeast(guests, colours)
		sum, fine := impl.SumPlan(guests, colours)
		least, does := impl.LeastRight(sum)
		wantNumber(t, fmt.Sprint("BestLeast by sums ", guests, colours), best, ok && fine && does, least)
	})
	for numbers, want := range map[[2]int]int{{2, 2}: 1, {3, 2}: 1, {4, 2}: 2, {2, 3}: 0, {3, 3}: 1, {4, 3}: 1} {
		best, ok := impl.BestLeast(numbers[0], numbers[1])
		wantNumber(t, fmt.Sprint("BestLeast ", numbers), best, ok, want)
	}
}
