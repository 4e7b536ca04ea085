package tests

import (
	"fmt"
	"math"
	"slices"
	"testing"

	"loop.example/g01315/impl"
)

// noTypes are lists that are no type: empty, rising, with numbers less than 1, with too great a sum,
// and with numbers so great that a sum of them is another one, of guests that there may be.
var noTypes = [][]int{
	nil, {}, {0}, {-1}, {13}, {1, 2}, {1, 1, 2}, {3, 1, 2}, {2, 3, 1}, {5, 4, 1, 2}, {11, 0, 1}, {2, 0}, {2, 1, 0}, {0, 0}, {3, -1}, {-1, -2}, {-1, 3}, {12, 0}, {12, 1}, {6, 7}, {6, 6, 1}, {7, 6}, {4, 4, 4, 1}, {11, 2}, {13, -1}, {14, -2},
	slices.Repeat([]int{1}, 13), slices.Repeat([]int{1}, 1000), slices.Repeat([]int{2}, 7), make([]int, 12), make([]int, 1000), slices.Repeat([]int{-1}, 4), inOrder(5), backwards(4), append(slices.Repeat([]int{1}, 12), 0),
	{math.MaxInt}, {math.MinInt}, {math.MaxInt, 1}, {math.MaxInt, math.MaxInt}, {math.MaxInt, math.MaxInt, 3}, {math.MaxInt, math.MaxInt, 2, 1}, {math.MinInt, math.MinInt}, {math.MaxInt, math.MinInt}, {3, math.MaxInt}, {3, math.MinInt},
	{1 << 62, 1 << 62, 1 << 62, 1 << 62}, {1 << 62, 1 << 62, 1 << 62, 1 << 62, 4}, {1 << 62, 1 << 62, 1 << 62, 1 << 62, 2, 1, 1}, {1 << 32}, {1<<32 + 4}, {1<<32 + 1, 1}, {260}, {256, 4}, {255, 1}, {1 << 16, 2, 1},
}

func TestListsThatAreNoTypes(t *testing.T) {
	for _, list := range noTypes {
		what := fmt.Sprint(" of ", list)
		count, ok := impl.CountType(list)
		wantNothing(t, "CountType"+what, count, ok)
		first, ok := impl.FirstOfType(list)
		wantNothing(t, "FirstOfType"+what, first, ok)
		twice, ok := impl.TwiceType(list)
		wantNothing(t, "TwiceType"+what, twice, ok)
		times, ok := impl.TimesOfType(list)
		wantNothing(t, "TimesOfType"+what, times, ok)
	}
}

// TestAllTypesAreTaken calls each function of a type with all that there are, of as many guests as there may be.
func TestAllTypesAreTaken(t *testing.T) {
	eachType(12, func(kind []int) {
		what := fmt.Sprint(" of ", kind)
		wantOnly(t, "CountType"+what, true, results(impl.CountType(kind))...)
		wantOnly(t, "FirstOfType"+what, true, results(impl.FirstOfType(kind))...)
		wantOnly(t, "TwiceType"+what, true, results(impl.TwiceType(kind))...)
		wantOnly(t, "TimesOfType"+what, true, results(impl.TimesOfType(kind))...)
	})
}

func noRootOf(t *testing.T, list []int) {
	t.Helper()
	count, ok := impl.CountRoots(list)
	wantNothing(t, fmt.Sprint("CountRoots of ", list), count, ok)
	first, ok := impl.FirstRoot(list)
	wantNothing(t, fmt.Sprint("FirstRoot of ", list), first, ok)
}

func TestListsThatHaveNoTypeAndNoRoots(t *testing.T) {
	for _, list := range append(slices.Clone(noExchanges), inOrder(13), backwards(13), make([]int, 12), make([]int, 7), []int{0, 1, 2, 3, 4, 5, 7}, []int{1, 2, 3, 4, 5, 6, 7}, []int{0, 0, 2, 3, 4, 5, 6}) {
		kind, ok := impl.TypeOf(list)
		wantNothing(t, fmt.Sprint("TypeOf of ", list), kind, ok)
		noRootOf(t, list)
	}
}

// TestRootsAreToldForFewGuests has exchanges that have roots, and more guests than there may be.
func TestRootsAreToldForFewGuests(t *testing.T) {
	for guests := 8; guests <= 12; guests++ {
		noRootOf(t, inOrder(guests))
		noRootOf(t, append([]int{2, 0, 1}, inOrder(guests)[3:]...))
		noRootOf(t, backwards(guests))
	}
	noRootOf(t, longChains)
	noRootOf(t, fiveChains)
	for guests := 1; guests <= 7; guests++ {
		wantOnly(t, fmt.Sprint("CountRoots of guests ", guests), true, results(impl.CountRoots(inOrder(guests)))...)
		wantOnly(t, fmt.Sprint("FirstRoot of guests ", guests), true, results(impl.FirstRoot(inOrder(guests)))...)
	}
}

// noNumberFor are numbers of chains, lengths or times that there are none of, whatever the guests.
var noNumberFor = []int{-1, -2, -12, 13, 14, 1001, 1002, math.MinInt, math.MaxInt, math.MinInt + 1, 1 << 32, 1<<32 + 1, -1 << 32}

// TestGuestsWithChainsLengthsAndTimes calls each function of a number of guests and one more with those that there are and with others.
func TestGuestsWithChainsLengthsAndTimes(t *testing.T) {
	guestNumbers := slices.Concat(noCounts, inOrder(15), []int{256 + 4, 1 << 32, math.MinInt + 4, math.MaxInt - 1})
	numbers := slices.Concat(noNumberFor, inOrder(15), []int{59, 60, 256, 257, 999, 1000})
	for _, guests := range guestNumbers {
		are := guests >= 1 && guests <= 12
		for _, number := range numbers {
			what := fmt.Sprint(" ", guests, " ", number)
			some := are && number >= 0 && number <= guests
			wantOnly(t, "CountByChains"+what, some, results(impl.CountByChains(guests, number))...)
			wantOnly(t, "ChanceLongest"+what, some, results(impl.ChanceLongest(guests, number))...)
			wantOnly(t, "CountLongest"+what, some && number > 0, results(impl.CountLongest(guests, number))...)
			wantOnly(t, "CountShortest"+what, some && number > 0, results(impl.CountShortest(guests, number))...)
			wantOnly(t, "MeanOfLength"+what, some && number > 0, results(impl.MeanOfLength(guests, number))...)
			wantOnly(t, "CountByTimes"+what, are && number >= 1 && number <= 1000, results(impl.CountByTimes(guests, number))...)
		}
	}
}

// TestNumbersOfGuestsInChains calls each function of a number of guests alone.
func TestNumbersOfGuestsInChains(t *testing.T) {
	for _, guests := range slices.Concat(noCounts, inOrder(20), []int{256 + 4, 1 << 32, math.MinInt + 4, math.MaxInt - 1}) {
		what := fmt.Sprint(" ", guests)
		are := guests >= 1 && guests <= 12
		wantOnly(t, "TypesOf"+what, are, results(impl.TypesOf(guests))...)
		wantOnly(t, "MeanChains"+what, are, results(impl.MeanChains(guests))...)
		wantOnly(t, "CountPairsAlone"+what, are, results(impl.CountPairsAlone(guests))...)
		wantOnly(t, "GreatestTimes"+what, are, results(impl.GreatestTimes(guests))...)
	}
}
