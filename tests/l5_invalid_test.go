package tests

import (
	"fmt"
	"math"
	"runtime"
	"slices"
	"sync"
	"testing"
	"time"

	"loop.example/g01315/impl"
)

// noParties are numbers of guests and of lost tickets that there cannot be, whatever the function.
var noParties = [][2]int{
	{0, 0}, {0, 1}, {-1, 0}, {-1, -1}, {-1, -2}, {1, 2}, {1, -1}, {3, 4}, {3, -1}, {3, -3}, {7, 8}, {7, -1}, {12, 13}, {12, -1}, {30, 31}, {30, -1}, {31, 0}, {31, 1}, {31, 31}, {32, 2}, {64, 1},
	{math.MaxInt, 0}, {math.MaxInt, 1}, {math.MaxInt, math.MaxInt}, {math.MinInt, 0}, {math.MinInt, math.MinInt}, {3, math.MaxInt}, {3, math.MinInt}, {math.MaxInt, math.MinInt},
	{1<<32 + 3, 1}, {3, 1<<32 + 1}, {257, 1}, {3, 257},
}

// manyParties are noParties, and all numbers of guests up to two more than the most, with some of lost tickets.
func manyParties() [][2]int {
	all := slices.Clone(noParties)
	for guests := 1; guests <= 32; guests++ {
		all = append(all, [2]int{guests, 0}, [2]int{guests, 1}, [2]int{guests, guests - 1}, [2]int{guests, guests}, [2]int{guests, -1}, [2]int{guests, guests + 1})
	}
	return all
}

// isParty reports whether there may be so many guests, up to most, and lost tickets.
func isParty(p [2]int, most int) bool {
	return p[0] >= 1 && p[0] <= most && p[1] >= 0 && p[1] <= p[0]
}

// wantOnly requires of a call that it succeeds or that it fails, with zero results beside the false.
func wantOnly(t *testing.T, what string, succeeds bool, got ...any) {
	t.Helper()
	if !succeeds {
		wantNothing(t, what, got...)
	} else if got[len(got)-1] != true {
		t.Errorf("%s: got %v, want it to succeed", what, got)
	}
}

// TestNumbersOfGuestsAndLostTickets calls each function with numbers that there are for it and with others.
func TestNumbersOfGuestsAndLostTickets(t *testing.T) {
	for _, p := range manyParties() {
		guests, lost := p[0], p[1]
		what := fmt.Sprint(" ", guests, " ", lost)
		wantOnly(t, "CountSeatings"+what, isParty(p, 12), results(impl.CountSeatings(guests, lost))...)
		wantOnly(t, "AllSeatings"+what, isParty(p, 7), results(impl.AllSeatings(guests, lost))...)
		wantOnly(t, "ChanceOwnSeat"+what, isParty(p, 30), results(impl.ChanceOwnSeat(guests, lost, 0))...)
		wantOnly(t, "MeanOwnSeats"+what, isParty(p, 12), results(impl.MeanOwnSeats(guests, lost))...)
		wantOnly(t, "CountDisplaced"+what, isParty(p, 7), results(impl.CountDisplaced(guests, lost, 0))...)
		wantOnly(t, "ChanceDisplaced"+what, isParty(p, 7), results(impl.ChanceDisplaced(guests, lost, 0))...)
		wantOnly(t, "LikeliestSeatings"+what, isParty(p, 7), results(impl.LikeliestSeatings(guests, lost))...)
		choices := make([]int, max(0, min(lost, 40)))
		wantOnly(t, "SeatBy"+what, isParty(p, 12), results(impl.SeatBy(guests, lost, choices))...)
	}
}

func TestNoSuchSeatedGuests(t *testing.T) {
	for _, guests := range []int{1, 2, 7, 12, 29, 30} {
		for lost := range guests + 1 {
			for _, guest := range []int{-1, -guests, guests, guests + 1, 30, 31, math.MinInt, math.MaxInt, 1 << 32} {
				num, den, ok := impl.ChanceOwnSeat(guests, lost, guest)
				wantNothing(t, fmt.Sprint("ChanceOwnSeat ", guests, lost, guest), num, den, ok)
			}
		}
	}
}

func TestNoSuchDisplacedGuests(t *testing.T) {
	for guests := 1; guests <= 7; guests++ {
		for lost := range guests + 1 {
			for _, many := range []int{-1, -guests, guests + 1, guests + 2, 8, math.MinInt, math.MaxInt, 1 << 32} {
				what := fmt.Sprint(" ", guests, " ", lost, " ", many)
				count, ok := impl.CountDisplaced(guests, lost, many)
				wantNothing(t, "CountDisplaced"+what, count, ok)
				num, den, ok := impl.ChanceDisplaced(guests, lost, many)
				wantNothing(t, "ChanceDisplaced"+what, num, den, ok)
			}
		}
	}
}

func TestListsThatAreNoSeatings(t *testing.T) {
	for _, list := range append(slices.Clone(noExchanges), inOrder(13), backwards(13), inOrder(30), make([]int, 12)) {
		displaced, ok := impl.DisplacedIn(list)
		wantNothing(t, fmt.Sprint("DisplacedIn ", list), displaced, ok)
		for _, lost := range []int{0, 1, 2, len(list), len(list) - 1, -1, 12} {
			noSeatingBy(t, lost, list)
		}
	}
}

// noSeatingBy requires of each function of lost tickets and a seating that it fails.
func noSeatingBy(t *testing.T, lost int, list []int) {
	t.Helper()
	what := fmt.Sprint(" ", lost, " ", list)
	can, ok := impl.CanSeat(lost, list)
	wantNothing(t, "CanSeat"+what, can, ok)
	num, den, ok := impl.ChanceOfSeating(lost, list)
	wantNothing(t, "ChanceOfSeating"+what, num, den, ok)
	choices, ok := impl.ChoicesOf(lost, list)
	wantNothing(t, "ChoicesOf"+what, choices, ok)
}

func TestSeatingsWithNoSuchLostTickets(t *testing.T) {
	for _, list := range append(exchangesUpTo(4), inOrder(12), backwards(12)) {
		for _, lost := range []int{-1, -len(list), len(list) + 1, 13, math.MinInt, math.MaxInt, 1 << 32} {
			noSeatingBy(t, lost, list)
		}
	}
}

// TestChoicesOfSeatingsThatCannotCome has all exchanges of few guests.
func TestChoicesOfSeatingsThatCannotCome(t *testing.T) {
	eachParty(6, func(guests, lost int, coming []cameSeating) {
		lists := listsOf(coming)
		for _, list := range exchangesOf(guests) {
			if len(lists) > 0 && slices.Equal(lists[0], list) {
				lists = lists[1:]
				continue
			}
			choices, ok := impl.ChoicesOf(lost, list)
			wantNothing(t, fmt.Sprint("ChoicesOf ", lost, " ", list), choices, ok)
		}
	})
	choices, ok := impl.ChoicesOf(5, backwards(12))
	wantNothing(t, "ChoicesOf of twelve", choices, ok)
}

// TestChoicesThatAreNone changes choices that lead to a seating: too few, too many, and places that there are none of.
func TestChoicesThatAreNone(t *testing.T) {
	eachParty(5, func(guests, lost int, coming []cameSeating) {
		for _, s := range coming {
			noSeatBy(t, guests, lost, append(slices.Clone(s.choices), 0))
			noSeatBy(t, guests, lost, append(slices.Clone(s.choices), -1))
			noSeatBy(t, guests, lost, append(slices.Clone(s.choices), make([]int, 100)...))
			for k := range s.choices {
				noSeatBy(t, guests, lost, s.choices[:k])
				for _, wrong := range []int{-1, guests, guests + 1, math.MinInt, math.MaxInt, 1 << 32} {
					noSeatBy(t, guests, lost, slices.Replace(slices.Clone(s.choices), k, k+1, wrong))
				}
			}
		}
	})
	noSeatBy(t, 12, 12, append(make([]int, 11), 1))
	noSeatBy(t, 12, 12, append([]int{12}, make([]int, 11)...))
	noSeatBy(t, 12, 12, append([]int{11, 11}, make([]int, 10)...))
	noSeatBy(t, 12, 12, make([]int, 11))
	noSeatBy(t, 12, 12, make([]int, 13))
	noSeatBy(t, 12, 0, []int{0})
	noSeatBy(t, 3, 1, []int{1})
	noSeatBy(t, 3, 1, []int{1, 2})
	noSeatBy(t, 3, 1, nil)
}

func noSeatBy(t *testing.T, guests, lost int, choices []int) {
	t.Helper()
	list, ok := impl.SeatBy(guests, lost, choices)
	wantNothing(t, fmt.Sprint("SeatBy ", guests, " ", lost, " ", choices), list, ok)
}

// TestNobodyIsLeftBehind looks at how many goroutines there are behind calls that look for seats, those that fail too.
func TestNobodyIsLeftBehind(t *testing.T) {
	before := runtime.NumGoroutine()
	for range 200 {
		impl.SeatBy(12, 12, make([]int, 12))
		impl.SeatBy(12, 12, backwards(12))
		impl.SeatBy(12, 12, []int{12})
		impl.SeatBy(12, 12, []int{0, 0})
		impl.ChoicesOf(12, backwards(12))
		impl.ChoicesOf(1, inOrder(12))
	}
	// One that has done its work may need a moment until it is gone.
	for range 1000 {
		if runtime.NumGoroutine() <= before {
			return
		}
		time.Sleep(time.Millisecond)
	}
	t.Error("goroutines left behind", runtime.NumGoroutine()-before)
}

// TestSeatsAtTheSameTime makes the same calls at the same time, with lists that all of them read.
func TestSeatsAtTheSameTime(t *testing.T) {
	list, choices := []int{5, 1, 2, 3, 4, 9, 6, 7, 8, 11, 10, 0}, []int{5, 4, 2, 0}
	var all sync.WaitGroup
	for range 50 {
		all.Add(1)
		go func() {
			defer all.Done()
			for range 20 {
				checkChoices(t, 1, list, choices)
			}
		}()
	}
	all.Wait()
}
