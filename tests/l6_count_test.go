package tests

import (
	"fmt"
	"math/big"
	"testing"

	"loop.example/g01315/impl"
)

// pairsAlone are the numbers of exchanges of 0, 1, .. guests with chains of one and two alone.
var pairsAlone = []int{1, 1, 2, 4, 10, 26, 76, 232, 764, 2620, 9496, 35696, 140152}

// eachTries calls look for all numbers of guests up to most and of tries.
func eachTries(most int, look func(guests, tries int)) {
	for guests := 1; guests <= most; guests++ {
		for tries := 1; tries <= guests; tries++ {
			look(guests, tries)
		}
	}
}

// findersCounted returns for how many exchanges 0, 1, 2, .. guests find their numbers, drawer by drawer.
func findersCounted(exchanges [][]int, guests, tries int) []int {
	counts := make([]int, guests+1)
	for _, list := range exchanges {
		counts[len(findersAmong(list, tries))]++
	}
	return counts
}

// TestCountsAgainstAllExchanges has all exchanges of up to seven guests.
func TestCountsAgainstAllExchanges(t *testing.T) {
	for guests := 1; guests <= 7; guests++ {
		exchanges := exchangesOf(guests)
		for tries := 1; tries <= guests; tries++ {
			what := fmt.Sprint(" ", guests, " ", tries)
			wants := findersCounted(exchanges, guests, tries)
			for finders, want := range wants {
				count, ok := impl.CountFinders(guests, tries, finders)
				wantNumber(t, fmt.Sprint("CountFinders", what, " ", finders), count, ok, want)
			}
			all, ok := impl.CountAllFind(guests, tries)
			wantNumber(t, "CountAllFind"+what, all, ok, wants[guests])
			num, den, ok := impl.ChanceAllFind(guests, tries)
			wantRat(t, "ChanceAllFind"+what, num, den, ok, big.NewRat(int64(wants[guests]), int64(len(exchanges))))
		}
	}
}

// TestCountsAddUp has all numbers of guests that there may be: counts by finders add up to all exchanges,
// and finders, each of whom is in a chain of 1, 2, .. guests in as many exchanges, to the tries times all exchanges.
func TestCountsAddUp(t *testing.T) {
	eachTries(12, func(guests, tries int) {
		what := fmt.Sprint(" ", guests, " ", tries)
		sum, found := 0, 0
		for finders := range guests + 1 {
			count, ok := impl.CountFinders(guests, tries, finders)
			if !ok {
				t.Error("CountFinders fails", what, finders)
			}
			sum += count
			found += finders * count
		}
		wantNumber(t, "all exchanges by CountFinders"+what, sum, true, product(guests))
		wantNumber(t, "all finders by CountFinders"+what, found, true, tries*product(guests))
		all, ok := impl.CountFinders(guests, tries, guests)
		count, fine := impl.CountAllFind(guests, tries)
		wantNumber(t, "CountAllFind"+what, count, ok && fine, all)
	})
}

// TestAllFindToTheLimit has few tries, and so many that at most one chain can be longer.
func TestAllFindToTheLimit(t *testing.T) {
	for guests := 1; guests <= 12; guests++ {
		for tries := max(1, guests/2); tries <= guests; tries++ {
			want := product(guests)
			for length := tries + 1; length <= guests; length++ {
				want -= product(guests) / length
			}
			count, ok := impl.CountAllFind(guests, tries)
			wantNumber(t, fmt.Sprint("CountAllFind ", guests, " ", tries), count, ok, want)
		}
		count, ok := impl.CountAllFind(guests, 1)
		wantNumber(t, fmt.Sprint("CountAllFind with one try ", guests), count, ok, 1)
		if guests > 1 {
			count, ok = impl.CountAllFind(guests, 2)
			wantNumber(t, fmt.Sprint("CountAllFind with two tries ", guests), count, ok, pairsAlone[guests])
		}
	}
	for tries, want := range map[int]int{1: 1, 2: 140152, 11: 439084800, 12: 479001600} {
		count, ok := impl.CountAllFind(12, tries)
		wantNumber(t, fmt.Sprint("CountAllFind 12 ", tries), count, ok, want)
	}
}

// TestFindersWithOneTry are those with their own coats.
func TestFindersWithOneTry(t *testing.T) {
	for guests := 1; guests <= 12; guests++ {
		for finders := range guests + 1 {
			others := guests - finders
			want := product(guests) / (product(finders) * product(others)) * nones[others]
			count, ok := impl.CountFinders(guests, 1, finders)
			wantNumber(t, fmt.Sprint("CountFinders ", guests, " 1 ", finders), count, ok, want)
		}
	}
	for _, c := range []struct{ tries, finders, want int }{{11, 0, 39916800}, {11, 12, 439084800}, {11, 6, 0}, {12, 0, 0}, {12, 12, 479001600}, {6, 0, 39916800}, {6, 6, 0}, {6, 5, 68428800}} {
		count, ok := impl.CountFinders(12, c.tries, c.finders)
		wantNumber(t, fmt.Sprint("CountFinders 12 ", c.tries, " ", c.finders), count, ok, c.want)
	}
}

func TestChancesOfAllToTheLimit(t *testing.T) {
	eachTries(12, func(guests, tries int) {
		what := fmt.Sprint("ChanceAllFind ", guests, " ", tries)
		count, fine := impl.CountAllFind(guests, tries)
		num, den, ok := impl.ChanceAllFind(guests, tries)
		wantRat(t, what, num, den, ok && fine, big.NewRat(int64(count), int64(product(guests))))
	})
	for _, c := range []struct{ guests, tries, num, den int }{
		{2, 1, 1, 2}, {3, 2, 2, 3}, {4, 1, 1, 24}, {4, 3, 3, 4}, {12, 12, 1, 1}, {12, 11, 11, 12}, {12, 1, 1, 479001600}, {10, 5, 893, 2520}, {12, 6, 9613, 27720},
	} {
		num, den, ok := impl.ChanceAllFind(c.guests, c.tries)
		wantPart(t, fmt.Sprint("ChanceAllFind ", c.guests, " ", c.tries), num, den, ok, c.num, c.den)
	}
}

// TestChancesByLuck multiplies the chances of all guests, and requires failure just for denominators that are too great.
func TestChancesByLuck(t *testing.T) {
	eachTries(12, func(guests, tries int) {
		what := fmt.Sprint("ChanceByLuck ", guests, " ", tries)
		want := big.NewRat(1, 1)
		for range guests {
			want.Mul(want, big.NewRat(int64(tries), int64(guests)))
		}
		num, den, ok := impl.ChanceByLuck(guests, tries)
		if want.Denom().Cmp(big.NewInt(1000000000000)) > 0 {
			wantNothing(t, what, num, den, ok)
			return
		}
		wantRat(t, what, num, den, ok, want)
	})
	for _, c := range []struct{ guests, tries, num, den int }{
		{2, 1, 1, 4}, {6, 4, 64, 729}, {10, 1, 1, 10000000000}, {10, 5, 1, 1024}, {10, 10, 1, 1}, {11, 1, 1, 285311670611}, {11, 10, 100000000000, 285311670611},
		{12, 2, 1, 2176782336}, {12, 6, 1, 4096}, {12, 8, 4096, 531441}, {12, 10, 244140625, 2176782336}, {12, 12, 1, 1},
	} {
		num, den, ok := impl.ChanceByLuck(c.guests, c.tries)
		wantPart(t, fmt.Sprint("ChanceByLuck ", c.guests, " ", c.tries), num, den, ok, c.num, c.den)
	}
	for _, tries := range []int{1, 5, 7, 11} {
		num, den, ok := impl.ChanceByLuck(12, tries)
		wantNothing(t, fmt.Sprint("ChanceByLuck 12 ", tries), num, den, ok)
	}
}

// triesTried returns the least number of tries for a chance, by comparing all chances, or 0 if there is none.
func triesTried(t *testing.T, guests int, chance *big.Rat) int {
	t.Helper()
	for tries := 1; tries <= guests; tries++ {
		num, den, ok := impl.ChanceAllFind(guests, tries)
		if !ok {
			t.Fatal("ChanceAllFind fails", guests, tries)
		}
		if big.NewRat(int64(num), int64(den)).Cmp(chance) >= 0 {
			return tries
		}
	}
	return 0
}

// checkTriesFor holds the tries for a chance against all chances, and requires failure for a chance beyond 1.
func checkTriesFor(t *testing.T, guests, num, den int) {
	t.Helper()
	what := fmt.Sprint("TriesForChance ", guests, " ", num, " / ", den)
	want := triesTried(t, guests, big.NewRat(int64(num), int64(den)))
	tries, ok := impl.TriesForChance(guests, num, den)
	if want == 0 {
		wantNothing(t, what, tries, ok)
	} else {
		wantNumber(t, what, tries, ok, want)
	}
}

func TestTriesForChances(t *testing.T) {
	for guests := 1; guests <= 12; guests++ {
		for den := 1; den <= 30; den++ {
			for num := range den + 2 {
				checkTriesFor(t, guests, num, den)
			}
		}
		for _, den := range []int{120, 720, 840, 999, 1000} {
			for _, num := range []int{0, 1, 2, 5, den / 4, den / 3, den/2 - 1, den / 2, den/2 + 1, den - den/12, den - 1, den, 1000} {
				checkTriesFor(t, guests, num, den)
			}
		}
	}
	for _, c := range []struct{ guests, num, den, want int }{
		{4, 5, 12, 2}, {4, 6, 12, 3}, {4, 417, 1000, 3}, {4, 416, 1000, 2}, {4, 3, 4, 3}, {4, 751, 1000, 4}, {4, 0, 1000, 1}, {4, 1, 24, 1}, {4, 2, 24, 2}, {4, 1000, 1000, 4},
		{12, 1, 1000, 3}, {12, 1, 3, 6}, {12, 11, 12, 11}, {12, 1000, 1000, 12}, {12, 0, 1, 1}, {5, 1, 120, 1}, {5, 1, 119, 2},
	} {
		tries, ok := impl.TriesForChance(c.guests, c.num, c.den)
		wantNumber(t, fmt.Sprint("TriesForChance ", c.guests, " ", c.num, " / ", c.den), tries, ok, c.want)
	}
}

// TestFirstLosingAmongAll looks for the first one of all exchanges of up to seven guests in order.
func TestFirstLosingAmongAll(t *testing.T) {
	for guests := 1; guests <= 7; guests++ {
		exchanges := exchangesOf(guests)
		for tries := 1; tries <= guests; tries++ {
			losing := kept(exchanges, func(list []int) bool { return len(findersAmong(list, tries)) < guests })
			first, ok := impl.FirstLosing(guests, tries)
			wantFirst(t, fmt.Sprint("FirstLosing ", guests, " ", tries), first, ok, losing)
		}
	}
}

func TestFirstLosingOfTwelve(t *testing.T) {
	for _, c := range []struct {
		tries int
		want  []int
	}{
		{1, []int{0, 1, 2, 3, 4, 5, 6, 7, 8, 9, 11, 10}}, {2, []int{0, 1, 2, 3, 4, 5, 6, 7, 8, 10, 11, 9}}, {6, []int{0, 1, 2, 3, 4, 6, 7, 8, 9, 10, 11, 5}},
		{10, []int{0, 2, 3, 4, 5, 6, 7, 8, 9, 10, 11, 1}}, {11, []int{1, 2, 3, 4, 5, 6, 7, 8, 9, 10, 11, 0}},
	} {
		first, ok := impl.FirstLosing(12, c.tries)
		wantList(t, fmt.Sprint("FirstLosing 12 ", c.tries), first, ok, c.want...)
	}
	eachTries(12, func(guests, tries int) {
		first, ok := impl.FirstLosing(guests, tries)
		if tries == guests {
			wantNothing(t, fmt.Sprint("FirstLosing ", guests, " ", tries), first, ok)
			return
		}
		do, fine := impl.DoAllFind(first, tries)
		wantBool(t, fmt.Sprint("DoAllFind of FirstLosing ", guests, " ", tries), do, ok && fine, false)
		do, fine = impl.DoAllFind(first, tries+1)
		wantBool(t, fmt.Sprint("DoAllFind of FirstLosing with a try more ", guests, " ", tries), do, fine, true)
	})
}
