package tests

import (
	"fmt"
	"slices"
	"testing"

	"loop.example/g01315/impl"
)

// longChains has twelve guests in chains of 3, 4 and 5, whose numbers are mixed.
var longChains = []int{4, 6, 9, 1, 8, 2, 10, 5, 0, 11, 3, 7}

func manyExchanges() [][]int {
	return append(exchangesUpTo(6), longChains, inOrder(12), backwards(12), []int{1, 2, 3, 4, 5, 6, 7, 8, 9, 10, 11, 0})
}

func TestChainsHaveAllGuests(t *testing.T) {
	for _, list := range manyExchanges() {
		chains, ok := impl.ChainsOf(list)
		if !ok {
			t.Error("ChainsOf fails", list)
		}
		var all []int
		before := -1
		for _, c := range chains {
			if len(c) == 0 || c[0] != slices.Min(c) || c[0] < before {
				t.Fatal("ChainsOf", list, "in no order", chains)
			}
			before = c[0]
			for k, number := range c {
				if list[number] != c[(k+1)%len(c)] {
					t.Error("ChainsOf", list, "is no chain", c)
				}
			}
			all = append(all, c...)
		}
		slices.Sort(all)
		wantList(t, fmt.Sprint("all guests of the chains of ", list), all, true, inOrder(len(list))...)
	}
}

func TestChainsOfTwelve(t *testing.T) {
	chains, ok := impl.ChainsOf(longChains)
	wantLists(t, "ChainsOf", chains, ok, []int{0, 4, 8}, []int{1, 6, 10, 3}, []int{2, 9, 11, 7, 5})
	chains, ok = impl.ChainsOf(backwards(12))
	wantLists(t, "ChainsOf pairs", chains, ok, []int{0, 11}, []int{1, 10}, []int{2, 9}, []int{3, 8}, []int{4, 7}, []int{5, 6})
}

// TestFewestSwaps finds the least number of swaps by trying all of them.
func TestFewestSwaps(t *testing.T) {
	for n := 1; n <= 6; n++ {
		steps := stepsFromRight(n)
		for _, list := range exchangesOf(n) {
			few, ok := impl.FewestSwaps(list)
			wantNumber(t, fmt.Sprint("FewestSwaps of ", list), few, ok, steps[textOf(list)])
		}
	}
	few, ok := impl.FewestSwaps([]int{1, 2, 3, 4, 5, 6, 7, 8, 9, 10, 11, 0})
	wantNumber(t, "FewestSwaps of one long chain", few, ok, 11)
	few, ok = impl.FewestSwaps(inOrder(12))
	wantNumber(t, "FewestSwaps of none", few, ok, 0)
}

// stepsFromRight tells for each exchange how many swaps lead there from the one in which all have their own coats.
func stepsFromRight(guests int) map[string]int {
	first := inOrder(guests)
	steps := map[string]int{textOf(first): 0}
	for queue := [][]int{first}; len(queue) > 0; queue = queue[1:] {
		list := queue[0]
		for i := range list {
			for j := range i {
				swapped := slices.Clone(list)
				swapped[i], swapped[j] = list[j], list[i]
				if _, ok := steps[textOf(swapped)]; !ok {
					steps[textOf(swapped)] = steps[textOf(list)] + 1
					queue = append(queue, swapped)
				}
			}
		}
	}
	return steps
}

func TestSwapsPutEachGuestRight(t *testing.T) {
	for _, list := range manyExchanges() {
		swaps, ok := impl.FirstSwaps(list)
		few, fine := impl.FewestSwaps(list)
		if !ok || !fine || len(swaps) != few {
			t.Error("FirstSwaps of", list, "are", swaps, ok, "and not", few)
		}
		held := slices.Clone(list)
		for _, s := range swaps {
			least := slices.IndexFunc(inOrder(len(held)), func(i int) bool { return held[i] != i })
			if least < 0 || !slices.Equal(s, []int{least, slices.Index(held, least)}) {
				t.Fatal("FirstSwaps of", list, "are", swaps)
			}
			held, _ = impl.SwapCoats(held, s[0], s[1])
		}
		wantList(t, fmt.Sprint("what is held behind the swaps of ", list), held, true, inOrder(len(list))...)
	}
}

func TestTimesToRight(t *testing.T) {
	for _, list := range manyExchanges() {
		times, ok := impl.TimesToRight(list)
		wantNumber(t, fmt.Sprint("TimesToRight of ", list), times, ok, timesMade(list))
	}
	times, ok := impl.TimesToRight(longChains)
	wantNumber(t, "TimesToRight of chains of 3, 4 and 5", times, ok, 60)
	times, ok = impl.TimesToRight([]int{1, 0, 3, 4, 5, 2, 7, 8, 9, 10, 11, 6})
	wantNumber(t, "TimesToRight of chains of 2, 4 and 6", times, ok, 12)
}

// timesMade makes an exchange until each guest has the own coat.
func timesMade(list []int) int {
	held := slices.Clone(list)
	times := 1
	for !slices.IsSorted(held) {
		held = madeBehind(held, list)
		times++
	}
	return times
}

func TestBackAndThen(t *testing.T) {
	for _, list := range manyExchanges() {
		back, _ := impl.BackExchange(list)
		right, ok := impl.ThenExchange(list, back)
		wantList(t, fmt.Sprint("there and back ", list), right, ok, inOrder(len(list))...)
		right, ok = impl.ThenExchange(back, list)
		wantList(t, fmt.Sprint("back and there ", list), right, ok, inOrder(len(list))...)
	}
}
