package tests

import (
	"fmt"
	"math/big"
	"slices"
	"testing"

	"loop.example/g01315/impl"
)

// counted returns how many exchanges have each number that is told of their types, 0 up to most.
func counted(exchanges [][]int, most int, tell func(kind []int) int) []int {
	counts := make([]int, most+1)
	for _, list := range exchanges {
		counts[tell(lengthsIn(list))]++
	}
	return counts
}

func numberOf(kind []int) int { return len(kind) }

func firstIn(kind []int) int { return kind[0] }

func lastIn(kind []int) int { return kind[len(kind)-1] }

// wantCounts requires that a function counts as told for each number from least on.
func wantCounts(t *testing.T, name string, guests, least int, count func(guests, number int) (int, bool), wants []int) {
	t.Helper()
	for number := least; number < len(wants); number++ {
		got, ok := count(guests, number)
		wantNumber(t, fmt.Sprint(name, " ", guests, " ", number), got, ok, wants[number])
	}
}

// addedUp returns the sum of what a function counts for each number from least up to most.
func addedUp(t *testing.T, guests, least, most int, count func(guests, number int) (int, bool)) int {
	t.Helper()
	sum := 0
	for number := least; number <= most; number++ {
		got, ok := count(guests, number)
		if !ok || got < 0 {
			t.Error("a count fails", guests, number, got, ok)
		}
		sum += got
	}
	return sum
}

// TestCountsOfTypesAgainstAllExchanges has all exchanges of up to seven guests.
func TestCountsOfTypesAgainstAllExchanges(t *testing.T) {
	eachExchanges(func(guests int, exchanges [][]int) {
		wants := map[string]int{}
		for _, list := range exchanges {
			wants[textOf(lengthsIn(list))]++
		}
		for _, kind := range allTypesOf(guests) {
			count, ok := impl.CountType(kind)
			wantNumber(t, fmt.Sprint("CountType ", kind), count, ok, wants[textOf(kind)])
		}
	})
}

// TestAllTypesHaveAllExchanges adds up the counts of all types of as many guests as there may be.
func TestAllTypesHaveAllExchanges(t *testing.T) {
	for guests := 1; guests <= 12; guests++ {
		types, ok := impl.TypesOf(guests)
		sum := 0
		for _, kind := range types {
			count, fine := impl.CountType(kind)
			ok = ok && fine && count > 0
			sum += count
		}
		wantNumber(t, fmt.Sprint("exchanges with TypesOf ", guests), sum, ok, product(guests))
	}
}

func TestCountTypesToTheLimit(t *testing.T) {
	for guests := 1; guests <= 12; guests++ {
		count, ok := impl.CountType([]int{guests})
		wantNumber(t, fmt.Sprint("CountType of one chain ", guests), count, ok, product(guests-1))
		count, ok = impl.CountType(slices.Repeat([]int{1}, guests))
		wantNumber(t, fmt.Sprint("CountType of single guests ", guests), count, ok, 1)
	}
	for _, c := range []struct {
		kind []int
		want int
	}{
		{[]int{2, 2, 2, 2, 2, 2}, 10395}, {[]int{6, 6}, 6652800}, {[]int{4, 4, 4}, 1247400}, {[]int{3, 3, 3, 3}, 246400}, {[]int{5, 4, 3}, 7983360}, {[]int{4, 3, 2, 2, 1}, 4989600},
		{[]int{11, 1}, 43545600}, {[]int{10, 2}, 23950080}, {[]int{2, 1, 1, 1, 1, 1, 1, 1, 1, 1, 1}, 66}, {[]int{3, 3, 2, 2, 1, 1}, 1663200}, {[]int{12}, 39916800}, {[]int{7, 5}, 13685760},
	} {
		count, ok := impl.CountType(c.kind)
		wantNumber(t, fmt.Sprint("CountType ", c.kind), count, ok, c.want)
	}
}

// TestCountsByChainsAndLengths has all exchanges of up to seven guests.
func TestCountsByChainsAndLengths(t *testing.T) {
	eachExchanges(func(guests int, exchanges [][]int) {
		wantCounts(t, "CountByChains", guests, 0, impl.CountByChains, counted(exchanges, guests, numberOf))
		wantCounts(t, "CountLongest", guests, 1, impl.CountLongest, counted(exchanges, guests, firstIn))
		wantCounts(t, "CountShortest", guests, 1, impl.CountShortest, counted(exchanges, guests, lastIn))
	})
}

// TestCountsByChainsToTheLimit lets one guest more be a chain alone or sit behind each of the others in a chain.
func TestCountsByChainsToTheLimit(t *testing.T) {
	wants := []int{1}
	for guests := 1; guests <= 12; guests++ {
		next := make([]int, guests+1)
		for chains, count := range wants {
			next[chains] += (guests - 1) * count
			next[chains+1] += count
		}
		wants = next
		wantCounts(t, "CountByChains", guests, 0, impl.CountByChains, wants)
		wantNumber(t, fmt.Sprint("all by CountByChains ", guests), addedUp(t, guests, 0, guests, impl.CountByChains), true, product(guests))
	}
	wantCounts(t, "CountByChains", 12, 0, impl.CountByChains, []int{0, 39916800, 120543840, 150917976, 105258076, 45995730, 13339535, 2637558, 357423, 32670, 1925, 66, 1})
}

// withLengths returns how many exchanges of so many guests have chains of lengths alone that may be:
// the last guest is in a chain with others in turn, or alone.
func withLengths(guests int, may func(length int) bool) int {
	if guests == 0 {
		return 1
	}
	count, orders := 0, 1
	for length := 1; length <= guests; length++ {
		if may(length) {
			count += orders * withLengths(guests-length, may)
		}
		orders *= guests - length
	}
	return count
}

// atMost is the choice of lengths up to one.
func atMost(most int) func(int) bool { return func(length int) bool { return length <= most } }

// atLeast is the choice of lengths from one on.
func atLeast(least int) func(int) bool { return func(length int) bool { return length >= least } }

func TestCountsByLengthsToTheLimit(t *testing.T) {
	for guests := 1; guests <= 12; guests++ {
		longest, shortest := make([]int, guests+1), make([]int, guests+1)
		for length := 1; length <= guests; length++ {
			longest[length] = withLengths(guests, atMost(length)) - withLengths(guests, atMost(length-1))
			shortest[length] = withLengths(guests, atLeast(length)) - withLengths(guests, atLeast(length+1))
		}
		wantCounts(t, "CountLongest", guests, 1, impl.CountLongest, longest)
		wantCounts(t, "CountShortest", guests, 1, impl.CountShortest, shortest)
		wantNumber(t, fmt.Sprint("all by CountLongest ", guests), addedUp(t, guests, 1, guests, impl.CountLongest), true, product(guests))
		wantNumber(t, fmt.Sprint("all by CountShortest ", guests), addedUp(t, guests, 1, guests, impl.CountShortest), true, product(guests))
		wantNumber(t, fmt.Sprint("nobody alone by CountShortest ", guests), addedUp(t, guests, 2, guests, impl.CountShortest), true, nones[guests])
	}
	wantCounts(t, "CountLongest", 12, 1, impl.CountLongest, []int{0, 1, 140151, 6179360, 30044520, 56567808, 73180800, 68428800, 59875200, 53222400, 47900160, 43545600, 39916800})
	wantCounts(t, "CountShortest", 12, 1, impl.CountShortest, []int{0, 302786759, 69337521, 30405760, 16216200, 13685760, 6652800, 0, 0, 0, 0, 0, 39916800})
}

// TestLongestAgainstDrawers requires that all find with just so many tries as the longest chain is long.
func TestLongestAgainstDrawers(t *testing.T) {
	eachTries(12, func(guests, tries int) {
		all, ok := impl.CountAllFind(guests, tries)
		sum := addedUp(t, guests, 1, tries, impl.CountLongest)
		wantNumber(t, fmt.Sprint("all who find by CountLongest ", guests, " ", tries), sum, ok, all)
		num, den, ok := impl.ChanceAllFind(guests, tries)
		longNum, longDen, fine := impl.ChanceLongest(guests, tries)
		wantPart(t, fmt.Sprint("ChanceLongest ", guests, " ", tries), longNum, longDen, ok && fine, num, den)
	})
}

// meanOver returns the mean of what is told of the types of exchanges.
func meanOver(exchanges [][]int, tell func(kind []int) int) *big.Rat {
	sum := 0
	for _, list := range exchanges {
		sum += tell(lengthsIn(list))
	}
	return big.NewRat(int64(sum), int64(len(exchanges)))
}

// TestMeansAreThoseOfAll has all exchanges of up to seven guests.
func TestMeansAreThoseOfAll(t *testing.T) {
	eachExchanges(func(guests int, exchanges [][]int) {
		num, den, ok := impl.MeanChains(guests)
		wantRat(t, fmt.Sprint("MeanChains ", guests), num, den, ok, meanOver(exchanges, numberOf))
		for length := 1; length <= guests; length++ {
			num, den, ok := impl.MeanOfLength(guests, length)
			wantRat(t, fmt.Sprint("MeanOfLength ", guests, " ", length), num, den, ok, meanOver(exchanges, func(kind []int) int { return timesIn(kind, length) }))
		}
		for most := range guests + 1 {
			num, den, ok := impl.ChanceLongest(guests, most)
			short := kept(exchanges, func(list []int) bool { return lengthsIn(list)[0] <= most })
			wantRat(t, fmt.Sprint("ChanceLongest ", guests, " ", most), num, den, ok, big.NewRat(int64(len(short)), int64(len(exchanges))))
		}
	})
}

// timesIn returns how often a number is in a list.
func timesIn(list []int, number int) int {
	return len(slices.DeleteFunc(slices.Clone(list), func(n int) bool { return n != number }))
}

// TestMeansOverAllTypes has the types of as many guests as there may be, each as often as there are exchanges with it.
func TestMeansOverAllTypes(t *testing.T) {
	for guests := 1; guests <= 12; guests++ {
		chains, ofLength := new(big.Rat), make([]*big.Rat, guests+1)
		for length := range ofLength {
			ofLength[length] = new(big.Rat)
		}
		for _, kind := range allTypesOf(guests) {
			count, _ := impl.CountType(kind)
			part := big.NewRat(int64(count), int64(product(guests)))
			for _, length := range kind {
				chains.Add(chains, part)
				ofLength[length].Add(ofLength[length], part)
			}
		}
		num, den, ok := impl.MeanChains(guests)
		wantRat(t, fmt.Sprint("MeanChains ", guests), num, den, ok, chains)
		for length := 1; length <= guests; length++ {
			num, den, ok := impl.MeanOfLength(guests, length)
			wantRat(t, fmt.Sprint("MeanOfLength ", guests, " ", length), num, den, ok, ofLength[length])
		}
	}
}

func TestMeansAndChancesWrittenOut(t *testing.T) {
	for guests, want := range [][2]int{{}, {1, 1}, {3, 2}, {11, 6}, {25, 12}, {137, 60}, {49, 20}, {363, 140}, {761, 280}, {7129, 2520}, {7381, 2520}, {83711, 27720}, {86021, 27720}} {
		if guests == 0 {
			continue
		}
		num, den, ok := impl.MeanChains(guests)
		wantPart(t, fmt.Sprint("MeanChains ", guests), num, den, ok, want[0], want[1])
		num, den, ok = impl.ChanceLongest(guests, 0)
		wantPart(t, fmt.Sprint("ChanceLongest 0 of ", guests), num, den, ok, 0, 1)
		num, den, ok = impl.ChanceLongest(guests, 1)
		wantPart(t, fmt.Sprint("ChanceLongest 1 of ", guests), num, den, ok, 1, product(guests))
		num, den, ok = impl.ChanceLongest(guests, guests)
		wantPart(t, fmt.Sprint("ChanceLongest of all of ", guests), num, den, ok, 1, 1)
	}
	for _, c := range []struct{ guests, number, num, den int }{{4, 3, 3, 4}, {12, 6, 9613, 27720}, {12, 11, 11, 12}, {10, 5, 893, 2520}, {6, 2, 19, 180}} {
		num, den, ok := impl.ChanceLongest(c.guests, c.number)
		wantPart(t, fmt.Sprint("ChanceLongest ", c.guests, " ", c.number), num, den, ok, c.num, c.den)
	}
	for _, c := range []struct{ guests, number, num, den int }{{4, 1, 1, 1}, {4, 4, 1, 4}, {12, 1, 1, 1}, {12, 5, 1, 5}, {12, 12, 1, 12}} {
		num, den, ok := impl.MeanOfLength(c.guests, c.number)
		wantPart(t, fmt.Sprint("MeanOfLength ", c.guests, " ", c.number), num, den, ok, c.num, c.den)
	}
}

// TestPairsAloneAreRightTwice counts the exchanges that done twice put each guest right.
func TestPairsAloneAreRightTwice(t *testing.T) {
	eachExchanges(func(guests int, exchanges [][]int) {
		right := kept(exchanges, func(list []int) bool { return slices.IsSorted(madeBehind(list, list)) })
		count, ok := impl.CountPairsAlone(guests)
		wantNumber(t, fmt.Sprint("CountPairsAlone ", guests), count, ok, len(right))
	})
	for guests := 1; guests <= 12; guests++ {
		count, ok := impl.CountPairsAlone(guests)
		wantNumber(t, fmt.Sprint("CountPairsAlone ", guests), count, ok, pairsAlone[guests])
	}
}
