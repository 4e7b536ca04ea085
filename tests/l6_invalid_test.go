package tests

import (
	"fmt"
	"math"
	"runtime"
	"slices"
	"sync"
	"testing"
	"time"

	"loop.example/g01315/impl"
)

// noTries are numbers of guests and of tries that there cannot be, whatever the function.
var noTries = [][2]int{
	{0, 0}, {0, 1}, {-1, -1}, {-1, 1}, {-1, 0}, {1, 0}, {1, 2}, {1, -1}, {4, 0}, {4, 5}, {4, -1}, {4, -4}, {12, 0}, {12, 13}, {12, -1}, {13, 1}, {13, 6}, {13, 12}, {13, 13}, {14, 14}, {64, 1}, {100, 100},
	{math.MaxInt, 1}, {math.MaxInt, math.MaxInt}, {math.MinInt, math.MinInt}, {math.MinInt, 1}, {4, math.MaxInt}, {4, math.MinInt}, {1<<32 + 4, 2}, {4, 1<<32 + 2}, {260, 2}, {4, 258},
}

// noNumbersOf are numbers that are none of 0 up to one less than so many.
func noNumbersOf(many int) []int {
	return []int{-1, -many, many, many + 1, 100, math.MinInt, math.MaxInt, 1 << 32, math.MinInt + 1}
}

// noPlans are lists that are no plan for so many guests: too few and too many, guests and drawers that there are none of, and drawers twice.
func noPlans(guests int) [][][]int {
	all := [][][]int{nil, {}, make([][]int, guests-1), make([][]int, guests+1), make([][]int, 1000), slices.Repeat([][]int{inOrder(guests)}, guests+1), slices.Repeat([][]int{{0}}, guests-1)}
	bad := [][]int{{-1}, {guests}, {0, guests}, {0, -1}, {0, 0}, append(inOrder(guests), 0), append([]int{guests - 1}, inOrder(guests)...), inOrder(guests + 1), make([]int, 1000), {math.MinInt}, {math.MaxInt}, {1 << 32}, {0, 1 << 16}, {256}}
	for _, drawers := range bad {
		for guest := range guests {
			plan := slices.Repeat([][]int{{0}}, guests)
			plan[guest] = drawers
			all = append(all, plan)
		}
	}
	return all
}

// noLookInto requires of each function of an exchange and tries that it fails.
func noLookInto(t *testing.T, list []int, tries int) {
	t.Helper()
	what := fmt.Sprint(" ", list, " ", tries)
	opened, ok := impl.OpenedBy(list, 0, tries)
	wantNothing(t, "OpenedBy"+what, opened, ok)
	found, ok := impl.FindersOf(list, tries)
	wantNothing(t, "FindersOf"+what, found, ok)
	do, ok := impl.DoAllFind(list, tries)
	wantNothing(t, "DoAllFind"+what, do, ok)
	plan, ok := impl.ChainPlan(list, tries)
	wantNothing(t, "ChainPlan"+what, plan, ok)
}

func TestListsThatAreNoDrawers(t *testing.T) {
	for _, list := range append(slices.Clone(noExchanges), inOrder(13), backwards(13), make([]int, 12)) {
		for _, tries := range []int{1, 2, len(list), len(list) - 1, 0, -1, 12, 13} {
			noLookInto(t, list, tries)
		}
		tries, ok := impl.TriesToFind(list)
		wantNothing(t, fmt.Sprint("TriesToFind ", list), tries, ok)
		swap, tries, ok := impl.BestSwap(list)
		wantNothing(t, fmt.Sprint("BestSwap ", list), swap, tries, ok)
		for _, by := range []int{0, 1, -1, len(list) - 1, len(list)} {
			shifted, ok := impl.ShiftDrawers(list, by)
			wantNothing(t, fmt.Sprint("ShiftDrawers ", list, by), shifted, ok)
		}
		for _, plan := range [][][]int{nil, make([][]int, len(list)), slices.Repeat([][]int{{0}}, len(list))} {
			found, ok := impl.PlanFinders(list, plan)
			wantNothing(t, fmt.Sprint("PlanFinders ", list, plan), found, ok)
		}
	}
}

func TestNoSuchTriesOfExchanges(t *testing.T) {
	for _, list := range append(exchangesUpTo(4), inOrder(7), inOrder(12), longChains) {
		for _, tries := range []int{0, -1, -len(list), len(list) + 1, 13, math.MinInt, math.MaxInt, 1<<32 + 1, 257} {
			noLookInto(t, list, tries)
		}
	}
}

func TestNoSuchGuestsAndShifts(t *testing.T) {
	for _, list := range append(exchangesUpTo(4), inOrder(7), inOrder(12), longChains) {
		for _, number := range noNumbersOf(len(list)) {
			opened, ok := impl.OpenedBy(list, number, 1)
			wantNothing(t, fmt.Sprint("OpenedBy ", list, number), opened, ok)
			shifted, ok := impl.ShiftDrawers(list, number)
			wantNothing(t, fmt.Sprint("ShiftDrawers ", list, number), shifted, ok)
		}
	}
}

// TestNumbersOfGuestsAndTries calls each function with numbers that there are for it and with others.
func TestNumbersOfGuestsAndTries(t *testing.T) {
	pairs := slices.Clone(noTries)
	eachTries(14, func(guests, tries int) {
		pairs = append(pairs, [2]int{guests, tries}, [2]int{guests, -tries}, [2]int{guests, guests + tries})
	})
	for _, p := range pairs {
		guests, tries := p[0], p[1]
		what := fmt.Sprint(" ", guests, " ", tries)
		are := guests >= 1 && guests <= 12 && tries >= 1 && tries <= guests
		wantOnly(t, "CountAllFind"+what, are, results(impl.CountAllFind(guests, tries))...)
		wantOnly(t, "ChanceAllFind"+what, are, results(impl.ChanceAllFind(guests, tries))...)
		wantOnly(t, "CountFinders of none"+what, are, results(impl.CountFinders(guests, tries, 0))...)
		wantOnly(t, "CountFinders of all"+what, are, results(impl.CountFinders(guests, tries, guests))...)
		wantOnly(t, "FirstLosing"+what, are && tries < guests, results(impl.FirstLosing(guests, tries))...)
		great := guests == 12 && (tries == 1 || tries == 5 || tries == 7 || tries == 11)
		wantOnly(t, "ChanceByLuck"+what, are && !great, results(impl.ChanceByLuck(guests, tries))...)
	}
}

func TestNoSuchNumbersOfFinders(t *testing.T) {
	eachTries(12, func(guests, tries int) {
		for _, finders := range noNumbersOf(guests + 1) {
			count, ok := impl.CountFinders(guests, tries, finders)
			wantNothing(t, fmt.Sprint("CountFinders ", guests, " ", tries, " ", finders), count, ok)
		}
	})
}

func noTriesFor(t *testing.T, guests, num, den int) {
	t.Helper()
	tries, ok := impl.TriesForChance(guests, num, den)
	wantNothing(t, fmt.Sprint("TriesForChance ", guests, " ", num, " / ", den), tries, ok)
}

// TestChancesThatAreNone has parts that there are none of, chances beyond 1, and guests that there are none of.
func TestChancesThatAreNone(t *testing.T) {
	for guests := 1; guests <= 12; guests++ {
		for _, num := range []int{-1, -1000, 1001, 1002, math.MinInt, math.MaxInt, 1 << 32} {
			noTriesFor(t, guests, num, 1)
			noTriesFor(t, guests, num, 1000)
		}
		for _, den := range []int{0, -1, -1000, 1001, 1002, math.MinInt, math.MaxInt, 1 << 32} {
			noTriesFor(t, guests, 0, den)
			noTriesFor(t, guests, 1, den)
			noTriesFor(t, guests, 1000, den)
		}
		noTriesFor(t, guests, -1, -1)
		noTriesFor(t, guests, 2, 1)
		noTriesFor(t, guests, 1000, 999)
		noTriesFor(t, guests, 1000, 1)
	}
	for _, guests := range noCounts {
		noTriesFor(t, guests, 0, 1)
		noTriesFor(t, guests, 1, 2)
		noTriesFor(t, guests, 1, 1)
	}
}

func TestNoSwapOfOneGuest(t *testing.T) {
	swap, tries, ok := impl.BestSwap([]int{0})
	wantNothing(t, "BestSwap of one guest", swap, tries, ok)
}

func TestListsThatAreNoPlans(t *testing.T) {
	for guests := 1; guests <= 7; guests++ {
		for _, plan := range noPlans(guests) {
			for _, list := range [][]int{inOrder(guests), backwards(guests)} {
				found, ok := impl.PlanFinders(list, plan)
				wantNothing(t, fmt.Sprint("PlanFinders ", list, plan), found, ok)
			}
			wins, ok := impl.CountPlanWins(guests, plan)
			wantNothing(t, fmt.Sprint("CountPlanWins ", guests, plan), wins, ok)
		}
	}
}

// TestMoreGuestsThanPlansHave has plans that would be some if there could be so many guests.
func TestMoreGuestsThanPlansHave(t *testing.T) {
	for guests := 8; guests <= 13; guests++ {
		for _, plan := range [][][]int{make([][]int, guests), slices.Repeat([][]int{{0}}, guests), slices.Repeat([][]int{inOrder(guests)}, guests), nil, slices.Repeat([][]int{{0}}, 7)} {
			noPlanFor(t, guests, plan)
			found, ok := impl.PlanFinders(inOrder(guests), plan)
			wantNothing(t, fmt.Sprint("PlanFinders of guests ", guests, plan), found, ok)
		}
		for tries := 1; tries <= guests; tries++ {
			plan, ok := impl.ChainPlan(backwards(guests), tries)
			wantNothing(t, fmt.Sprint("ChainPlan of guests ", guests, tries), plan, ok)
		}
	}
	for _, guests := range append([]int{8, math.MaxInt - 1, 257}, noCounts...) {
		for _, plan := range [][][]int{nil, {}, {{0}}, {{0}, {1}}, make([][]int, 7)} {
			noPlanFor(t, guests, plan)
		}
	}
}

// noPlanFor requires that nothing is told of plans for so many guests, not even that they are none.
func noPlanFor(t *testing.T, guests int, plan [][]int) {
	t.Helper()
	is, ok := impl.IsDrawerPlan(guests, plan)
	wantNothing(t, fmt.Sprint("IsDrawerPlan ", guests, plan), is, ok)
	wins, ok := impl.CountPlanWins(guests, plan)
	wantNothing(t, fmt.Sprint("CountPlanWins ", guests, plan), wins, ok)
}

// TestNoFinderIsLeftBehind looks at how many goroutines there are behind calls that let guests look.
func TestNoFinderIsLeftBehind(t *testing.T) {
	before := runtime.NumGoroutine()
	for range 200 {
		impl.FindersOf(longChains, 4)
		impl.FindersOf(inOrder(12), 12)
		impl.PlanFinders(backwards(7), slices.Repeat([][]int{inOrder(7)}, 7))
		impl.PlanFinders(backwards(7), make([][]int, 7))
	}
	// One that has done its work may need a moment until it is gone.
	for range 1000 {
		if runtime.NumGoroutine() <= before {
			return
		}
		time.Sleep(time.Millisecond)
	}
	t.Error("goroutines left behind", runtime.NumGoroutine()-before)
}

// TestDrawersAtTheSameTime makes the same calls at the same time, with lists that all of them read.
func TestDrawersAtTheSameTime(t *testing.T) {
	list, plan := []int{1, 2, 0, 3, 5, 4, 6}, slices.Repeat([][]int{{0, 3, 6, 5}}, 7)
	var all sync.WaitGroup
	for range 50 {
		all.Add(1)
		go func() {
			defer all.Done()
			for range 200 {
				found, ok := impl.FindersOf(longChains, 4)
				wantList(t, "FindersOf at the same time", found, ok, 0, 1, 3, 4, 6, 8, 10)
				found, ok = impl.PlanFinders(list, plan)
				wantList(t, "PlanFinders at the same time", found, ok, 1, 3, 4, 6)
			}
		}()
	}
	all.Wait()
}
