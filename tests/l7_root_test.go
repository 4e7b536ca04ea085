package tests

import (
	"fmt"
	"slices"
	"testing"

	"loop.example/g01315/impl"
)

// greatestTimes are the greatest times of 0, 1, .. guests.
var greatestTimes = []int{1, 1, 2, 3, 4, 6, 6, 12, 15, 20, 30, 30, 60}

// wantTwice requires the type of an exchange that is done twice, by ThenExchange of it and itself.
func wantTwice(t *testing.T, list, kind []int) {
	t.Helper()
	both, ok := impl.ThenExchange(list, list)
	want, fine := impl.TypeOf(both)
	twice, does := impl.TwiceType(kind)
	wantList(t, fmt.Sprint("TwiceType ", kind, " of ", list), twice, ok && fine && does, want...)
}

// TestTwiceTypesAgainstExchanges has all exchanges of up to seven guests, and the first one of each type of more.
func TestTwiceTypesAgainstExchanges(t *testing.T) {
	eachExchanges(func(_ int, exchanges [][]int) {
		for _, list := range exchanges {
			wantTwice(t, list, lengthsIn(list))
		}
	})
	eachType(12, func(kind []int) {
		first, ok := impl.FirstOfType(kind)
		if !ok {
			t.Fatal("FirstOfType fails", kind)
		}
		wantTwice(t, first, kind)
	})
	wantTwice(t, longChains, []int{5, 4, 3})
	wantTwice(t, fiveChains, []int{4, 3, 2, 2, 1})
}

func TestTwiceTypesWrittenOut(t *testing.T) {
	for _, c := range []struct{ kind, want []int }{
		{[]int{2}, []int{1, 1}}, {[]int{3}, []int{3}}, {[]int{4, 3}, []int{3, 2, 2}}, {[]int{6, 5, 1}, []int{5, 3, 3, 1}}, {[]int{12}, []int{6, 6}}, {[]int{11, 1}, []int{11, 1}},
		{[]int{10, 2}, []int{5, 5, 1, 1}}, {[]int{2, 2, 2, 2, 2, 2}, slices.Repeat([]int{1}, 12)}, {[]int{8, 3, 1}, []int{4, 4, 3, 1}}, {[]int{6, 3, 2, 1}, []int{3, 3, 3, 1, 1, 1}}, {[]int{4, 1}, []int{2, 2, 1}},
	} {
		twice, ok := impl.TwiceType(c.kind)
		wantList(t, fmt.Sprint("TwiceType ", c.kind), twice, ok, c.want...)
	}
}

// TestRootsAgainstAllExchanges does each exchange of up to seven guests twice, so that all roots of each one are known in order.
func TestRootsAgainstAllExchanges(t *testing.T) {
	eachExchanges(func(guests int, exchanges [][]int) {
		roots := map[string][][]int{}
		for _, list := range exchanges {
			twice := textOf(madeBehind(list, list))
			roots[twice] = append(roots[twice], list)
		}
		for _, list := range exchanges {
			wants := roots[textOf(list)]
			count, ok := impl.CountRoots(list)
			wantNumber(t, fmt.Sprint("CountRoots ", list), count, ok, len(wants))
			first, ok := impl.FirstRoot(list)
			wantFirst(t, fmt.Sprint("FirstRoot ", list), first, ok, wants)
		}
	})
}

// TestFirstRootsDoneTwice does the first root of each exchange twice, and adds up all roots, each exchange being the root of one.
func TestFirstRootsDoneTwice(t *testing.T) {
	eachExchanges(func(guests int, exchanges [][]int) {
		sum := 0
		for _, list := range exchanges {
			count, ok := impl.CountRoots(list)
			sum += count
			first, has := impl.FirstRoot(list)
			if !ok || has != (count > 0) {
				t.Error("FirstRoot", list, first, has, "of roots", count, ok)
			}
			if has {
				both, ok := impl.ThenExchange(first, first)
				wantList(t, fmt.Sprint("FirstRoot twice ", list), both, ok, list...)
			}
		}
		wantNumber(t, fmt.Sprint("roots of all exchanges of ", guests), sum, true, product(guests))
	})
}

func TestRootsWrittenOut(t *testing.T) {
	for _, c := range []struct {
		list  []int
		count int
		first []int
	}{
		{[]int{0, 1}, 2, []int{0, 1}}, {[]int{1, 2, 0}, 1, []int{2, 0, 1}}, {inOrder(4), 10, inOrder(4)}, {inOrder(7), 232, inOrder(7)}, {[]int{1, 0, 3, 2}, 2, []int{2, 3, 1, 0}},
		{[]int{1, 2, 0, 4, 5, 3}, 4, []int{2, 0, 1, 5, 3, 4}}, {[]int{1, 2, 3, 4, 5, 6, 0}, 1, []int{4, 5, 6, 0, 1, 2, 3}}, {[]int{0, 1, 2, 4, 3, 6, 5}, 8, []int{0, 1, 2, 5, 6, 4, 3}},
		{[]int{0, 1, 2, 3, 5, 6, 4}, 10, []int{0, 1, 2, 3, 6, 4, 5}},
	} {
		count, ok := impl.CountRoots(c.list)
		wantNumber(t, fmt.Sprint("CountRoots ", c.list), count, ok, c.count)
		first, ok := impl.FirstRoot(c.list)
		wantList(t, fmt.Sprint("FirstRoot ", c.list), first, ok, c.first...)
	}
}

// TestExchangesWithoutRoots have chains of an even number of guests that are of a length an odd number of times.
func TestExchangesWithoutRoots(t *testing.T) {
	for _, list := range [][]int{{1, 0}, {0, 2, 1}, {1, 2, 3, 0}, {1, 0, 3, 4, 2}, {1, 0, 3, 2, 5, 4}, {1, 2, 3, 4, 5, 0}, {0, 1, 2, 3, 4, 6, 5}, {1, 0, 3, 4, 5, 6, 2}, {6, 5, 4, 3, 2, 1, 0}} {
		count, ok := impl.CountRoots(list)
		wantNumber(t, fmt.Sprint("CountRoots ", list), count, ok, 0)
		first, ok := impl.FirstRoot(list)
		wantNothing(t, fmt.Sprint("FirstRoot ", list), first, ok)
	}
}

// TestTimesOfTypes holds them against TimesToRight, and that against making the exchange again and again.
func TestTimesOfTypes(t *testing.T) {
	for _, list := range slices.Concat(drawersToLookInto(), exchangesOf(7)) {
		times, ok := impl.TimesOfType(lengthsIn(list))
		want, fine := impl.TimesToRight(list)
		wantNumber(t, fmt.Sprint("TimesOfType of ", list), times, ok && fine, want)
	}
	eachType(12, func(kind []int) {
		first, ok := impl.FirstOfType(kind)
		want, fine := impl.TimesToRight(first)
		times, does := impl.TimesOfType(kind)
		wantNumber(t, fmt.Sprint("TimesOfType ", kind), times, ok && fine && does, want)
		wantNumber(t, fmt.Sprint("times made of ", kind), timesMade(first), true, times)
	})
	for _, c := range []struct {
		kind []int
		want int
	}{{[]int{12}, 12}, {[]int{5, 4, 3}, 60}, {[]int{6, 4, 2}, 12}, {[]int{7, 5}, 35}, {slices.Repeat([]int{1}, 12), 1}, {[]int{3, 3, 3, 3}, 3}, {[]int{6, 4, 1, 1}, 12}, {[]int{2, 1}, 2}, {[]int{11, 1}, 11}} {
		times, ok := impl.TimesOfType(c.kind)
		wantNumber(t, fmt.Sprint("TimesOfType ", c.kind), times, ok, c.want)
	}
}

// TestCountsByTimes has all numbers of times that there may be, those that none has too, and all exchanges of up to seven guests.
func TestCountsByTimes(t *testing.T) {
	eachExchanges(func(guests int, exchanges [][]int) {
		wants := make([]int, 1001)
		greatest := 0
		for _, list := range exchanges {
			times := timesMade(list)
			wants[times]++
			greatest = max(greatest, times)
		}
		wantCounts(t, "CountByTimes", guests, 1, impl.CountByTimes, wants)
		times, ok := impl.GreatestTimes(guests)
		wantNumber(t, fmt.Sprint("GreatestTimes ", guests), times, ok, greatest)
	})
}

// TestCountsByTimesToTheLimit takes from those whose chains all have lengths that divide the times, so that these put each guest right,
// those that lesser times put right.
func TestCountsByTimesToTheLimit(t *testing.T) {
	for guests := 1; guests <= 12; guests++ {
		wants := make([]int, 1001)
		for times := 1; times <= 1000; times++ {
			wants[times] = withLengths(guests, func(length int) bool { return times%length == 0 })
			for lesser := 1; lesser < times; lesser++ {
				if times%lesser == 0 {
					wants[times] -= wants[lesser]
				}
			}
		}
		wantCounts(t, "CountByTimes", guests, 1, impl.CountByTimes, wants)
		wantNumber(t, fmt.Sprint("all by CountByTimes ", guests), addedUp(t, guests, 1, 1000, impl.CountByTimes), true, product(guests))
		greatest, ok := impl.GreatestTimes(guests)
		wantNumber(t, fmt.Sprint("GreatestTimes ", guests), greatest, ok, greatestTimes[guests])
		wantNumber(t, fmt.Sprint("all behind GreatestTimes ", guests), addedUp(t, guests, greatest+1, 1000, impl.CountByTimes), true, 0)
	}
	for times, want := range map[int]int{1: 1, 2: 140151, 3: 776600, 6: 42658440, 12: 80166240, 13: 0, 35: 13685760, 42: 11404800, 59: 0, 60: 7983360, 61: 0, 120: 0, 1000: 0} {
		count, ok := impl.CountByTimes(12, times)
		wantNumber(t, fmt.Sprint("CountByTimes 12 ", times), count, ok, want)
	}
}
