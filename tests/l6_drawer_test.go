package tests

import (
	"fmt"
	"slices"
	"testing"

	"loop.example/g01315/impl"
)

// fiveChains has twelve guests in chains of 1, 2, 2, 3 and 4, whose numbers are mixed.
var fiveChains = []int{7, 10, 2, 0, 9, 8, 11, 3, 5, 6, 1, 4}

// lookedInto opens drawers as chapter 6 tells it, drawer by drawer: those that are opened, and whether the own number is in one of them.
func lookedInto(list []int, guest, tries int) (opened []int, found bool) {
	drawer := guest
	for len(opened) < tries && !found {
		opened = append(opened, drawer)
		found = list[drawer] == guest
		drawer = list[drawer]
	}
	return opened, found
}

// findersAmong returns the guests who find their numbers drawer by drawer.
func findersAmong(list []int, tries int) []int {
	return slices.DeleteFunc(inOrder(len(list)), func(guest int) bool {
		_, found := lookedInto(list, guest, tries)
		return !found
	})
}

// triesNeeded returns the least number of tries with which all find, by trying all numbers.
func triesNeeded(list []int) int {
	tries := 1
	for len(findersAmong(list, tries)) < len(list) {
		tries++
	}
	return tries
}

// drawersToLookInto are all exchanges of few guests and some of twelve.
func drawersToLookInto() [][]int {
	return append(manyExchanges(), fiveChains, []int{1, 0, 3, 2, 5, 4, 7, 6, 9, 8, 11, 10}, []int{0, 2, 3, 4, 5, 6, 7, 8, 9, 10, 11, 1})
}

func TestDrawerLimits(t *testing.T) {
	if impl.MaxDrawers != 12 || impl.MaxPlanned != 7 {
		t.Error("limits", impl.MaxDrawers, impl.MaxPlanned)
	}
}

func TestDrawerExample(t *testing.T) {
	list := []int{1, 2, 0, 3}
	some, ok := impl.FindersOf(list, 2)
	wantList(t, "FindersOf with 2 tries", some, ok, 3)
	all, ok := impl.FindersOf(list, 3)
	wantList(t, "FindersOf with 3 tries", all, ok, 0, 1, 2, 3)
	do, ok := impl.DoAllFind(list, 2)
	wantBool(t, "DoAllFind with 2 tries", do, ok, false)
	do, ok = impl.DoAllFind(list, 3)
	wantBool(t, "DoAllFind with 3 tries", do, ok, true)
	opened, ok := impl.OpenedBy(list, 0, 3)
	wantList(t, "OpenedBy", opened, ok, 0, 1, 2)
	num, den, ok := impl.ChanceAllFind(4, 2)
	wantPart(t, "ChanceAllFind", num, den, ok, 5, 12)
	num, den, ok = impl.ChanceByLuck(4, 2)
	wantPart(t, "ChanceByLuck", num, den, ok, 1, 16)
	swap, tries, ok := impl.BestSwap(list)
	wantList(t, "BestSwap", swap, ok, 0, 1)
	wantNumber(t, "tries behind BestSwap", tries, ok, 2)
	losing, ok := impl.FirstLosing(3, 1)
	wantList(t, "FirstLosing", losing, ok, 0, 2, 1)
}

// TestOneDrawer has one guest, who finds the own number with the one try.
func TestOneDrawer(t *testing.T) {
	one := []int{0}
	opened, ok := impl.OpenedBy(one, 0, 1)
	wantList(t, "OpenedBy", opened, ok, 0)
	found, ok := impl.FindersOf(one, 1)
	wantList(t, "FindersOf", found, ok, 0)
	do, ok := impl.DoAllFind(one, 1)
	wantBool(t, "DoAllFind", do, ok, true)
	tries, ok := impl.TriesToFind(one)
	wantNumber(t, "TriesToFind", tries, ok, 1)
	count, ok := impl.CountAllFind(1, 1)
	wantNumber(t, "CountAllFind", count, ok, 1)
	num, den, ok := impl.ChanceAllFind(1, 1)
	wantPart(t, "ChanceAllFind", num, den, ok, 1, 1)
	num, den, ok = impl.ChanceByLuck(1, 1)
	wantPart(t, "ChanceByLuck", num, den, ok, 1, 1)
	for finders := range 2 {
		count, ok = impl.CountFinders(1, 1, finders)
		wantNumber(t, fmt.Sprint("CountFinders ", finders), count, ok, finders)
	}
	for _, num := range []int{0, 1, 7} {
		tries, ok = impl.TriesForChance(1, num, 7)
		wantNumber(t, fmt.Sprint("TriesForChance ", num, " / 7"), tries, ok, 1)
	}
	plan, ok := impl.ChainPlan(one, 1)
	wantLists(t, "ChainPlan", plan, ok, []int{0})
	found, ok = impl.PlanFinders(one, plan)
	wantList(t, "PlanFinders", found, ok, 0)
	found, ok = impl.PlanFinders(one, [][]int{{}})
	wantList(t, "PlanFinders who open nothing", found, ok)
	count, ok = impl.CountPlanWins(1, plan)
	wantNumber(t, "CountPlanWins", count, ok, 1)
	count, ok = impl.CountPlanWins(1, [][]int{nil})
	wantNumber(t, "CountPlanWins of nothing opened", count, ok, 0)
	shifted, ok := impl.ShiftDrawers(one, 0)
	wantList(t, "ShiftDrawers", shifted, ok, 0)
}

// TestOpenedAlongTheChain holds each guest with each number of tries against going from drawer to drawer.
func TestOpenedAlongTheChain(t *testing.T) {
	for _, list := range drawersToLookInto() {
		for tries := 1; tries <= len(list); tries++ {
			for guest := range list {
				want, _ := lookedInto(list, guest, tries)
				opened, ok := impl.OpenedBy(list, guest, tries)
				wantList(t, fmt.Sprint("OpenedBy ", list, guest, tries), opened, ok, want...)
			}
		}
	}
	opened, ok := impl.OpenedBy(longChains, 11, 12)
	wantList(t, "OpenedBy the guest 11", opened, ok, 11, 7, 5, 2, 9)
	opened, ok = impl.OpenedBy(longChains, 3, 3)
	wantList(t, "OpenedBy the guest 3 with 3 tries", opened, ok, 3, 1, 6)
	opened, ok = impl.OpenedBy(longChains, 3, 1)
	wantList(t, "OpenedBy the guest 3 with one try", opened, ok, 3)
}

// TestOpenedAgainstChains requires that the drawers are those of the guest's chain by ChainsOf, from this guest on.
func TestOpenedAgainstChains(t *testing.T) {
	for _, list := range drawersToLookInto() {
		chains, fine := impl.ChainsOf(list)
		for _, c := range chains {
			for k, guest := range c {
				around := slices.Concat(c[k:], c[:k])
				for tries := 1; tries <= len(list); tries++ {
					opened, ok := impl.OpenedBy(list, guest, tries)
					wantList(t, fmt.Sprint("OpenedBy ", list, guest, tries), opened, ok && fine, around[:min(tries, len(c))]...)
				}
			}
		}
	}
}

// TestFindersAgainstDrawers holds finders and whether all find against going from drawer to drawer.
func TestFindersAgainstDrawers(t *testing.T) {
	for _, list := range drawersToLookInto() {
		for tries := 1; tries <= len(list); tries++ {
			what := fmt.Sprint(" ", list, " ", tries)
			want := findersAmong(list, tries)
			found, ok := impl.FindersOf(list, tries)
			wantList(t, "FindersOf"+what, found, ok, want...)
			do, ok := impl.DoAllFind(list, tries)
			wantBool(t, "DoAllFind"+what, do, ok, len(want) == len(list))
		}
		tries, ok := impl.TriesToFind(list)
		wantNumber(t, fmt.Sprint("TriesToFind ", list), tries, ok, triesNeeded(list))
	}
}

// TestFindersAgainstChains requires that just those find whose chains are no longer than the tries.
func TestFindersAgainstChains(t *testing.T) {
	for _, list := range drawersToLookInto() {
		chains, fine := impl.ChainsOf(list)
		longest := 0
		for _, c := range chains {
			longest = max(longest, len(c))
		}
		for tries := 1; tries <= len(list); tries++ {
			var want []int
			for _, c := range chains {
				if len(c) <= tries {
					want = append(want, c...)
				}
			}
			slices.Sort(want)
			found, ok := impl.FindersOf(list, tries)
			wantList(t, fmt.Sprint("FindersOf ", list, tries), found, ok && fine, want...)
			do, ok := impl.DoAllFind(list, tries)
			wantBool(t, fmt.Sprint("DoAllFind ", list, tries), do, ok, longest <= tries)
		}
		tries, ok := impl.TriesToFind(list)
		wantNumber(t, fmt.Sprint("TriesToFind ", list), tries, ok, longest)
	}
}

func TestFindersOfTwelve(t *testing.T) {
	for tries, want := range [][]int{{}, {2}, {1, 2, 5, 8, 10}, {0, 1, 2, 3, 5, 7, 8, 10}, inOrder(12)} {
		if tries == 0 {
			continue
		}
		found, ok := impl.FindersOf(fiveChains, tries)
		wantList(t, fmt.Sprint("FindersOf five chains with tries ", tries), found, ok, want...)
	}
	around := []int{1, 2, 3, 4, 5, 6, 7, 8, 9, 10, 11, 0}
	found, ok := impl.FindersOf(around, 11)
	wantList(t, "FindersOf one chain with 11 tries", found, ok)
	found, ok = impl.FindersOf(around, 12)
	wantList(t, "FindersOf one chain with 12 tries", found, ok, inOrder(12)...)
	for _, c := range []struct {
		list []int
		want int
	}{{fiveChains, 4}, {longChains, 5}, {around, 12}, {inOrder(12), 1}, {backwards(12), 2}} {
		tries, ok := impl.TriesToFind(c.list)
		wantNumber(t, fmt.Sprint("TriesToFind ", c.list), tries, ok, c.want)
	}
}

// bestOfSwaps tries all swaps: the first one with the least number of tries behind it, and this.
func bestOfSwaps(list []int) ([]int, int) {
	var best []int
	least := len(list) + 1
	for i := range list {
		for j := range list {
			swapped := slices.Clone(list)
			swapped[i], swapped[j] = list[j], list[i]
			if tries := triesNeeded(swapped); i < j && tries < least {
				best, least = []int{i, j}, tries
			}
		}
	}
	return best, least
}

func TestBestSwaps(t *testing.T) {
	for _, list := range drawersToLookInto() {
		if len(list) == 1 {
			continue
		}
		want, least := bestOfSwaps(list)
		swap, tries, ok := impl.BestSwap(list)
		wantList(t, fmt.Sprint("BestSwap ", list), swap, ok, want...)
		wantNumber(t, fmt.Sprint("tries behind BestSwap ", list), tries, ok, least)
	}
}

// TestBestSwapsWrittenOut has swaps that help, one that changes nothing and some that do harm, as there is none that helps.
func TestBestSwapsWrittenOut(t *testing.T) {
	for _, c := range []struct {
		list        []int
		i, j, tries int
	}{
		{[]int{0, 1}, 0, 1, 2}, {[]int{1, 0}, 0, 1, 1}, {[]int{0, 1, 2}, 0, 1, 2}, {[]int{1, 2, 0}, 0, 1, 2}, {[]int{0, 2, 1}, 1, 2, 1},
		{[]int{1, 0, 3, 2}, 0, 1, 2}, {[]int{1, 2, 3, 0}, 0, 2, 2}, {[]int{0, 2, 3, 4, 1}, 1, 3, 2},
		{[]int{1, 2, 3, 4, 5, 6, 7, 8, 9, 10, 11, 0}, 0, 6, 6}, {inOrder(12), 0, 1, 2}, {longChains, 2, 5, 4},
	} {
		swap, tries, ok := impl.BestSwap(c.list)
		wantList(t, fmt.Sprint("BestSwap ", c.list), swap, ok, c.i, c.j)
		wantNumber(t, fmt.Sprint("tries behind BestSwap ", c.list), tries, ok, c.tries)
	}
}

// TestShiftedDrawers looks for each content in the drawer by farther, around.
func TestShiftedDrawers(t *testing.T) {
	for _, list := range drawersToLookInto() {
		n := len(list)
		for by := range n {
			shifted, ok := impl.ShiftDrawers(list, by)
			want := slices.Concat(list[n-by:], list[:n-by])
			wantList(t, fmt.Sprint("ShiftDrawers ", list, by), shifted, ok, want...)
			back, ok := impl.ShiftDrawers(shifted, (n-by)%n)
			wantList(t, fmt.Sprint("ShiftDrawers and back ", list, by), back, ok, list...)
		}
	}
	shifted, ok := impl.ShiftDrawers([]int{1, 2, 0, 3}, 1)
	wantList(t, "ShiftDrawers by 1", shifted, ok, 3, 1, 2, 0)
	shifted, ok = impl.ShiftDrawers(inOrder(12), 11)
	wantList(t, "ShiftDrawers by 11", shifted, ok, 1, 2, 3, 4, 5, 6, 7, 8, 9, 10, 11, 0)
	shifted, ok = impl.ShiftDrawers(longChains, 0)
	wantList(t, "ShiftDrawers by 0", shifted, ok, longChains...)
}
