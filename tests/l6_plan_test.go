package tests

import (
	"fmt"
	"slices"
	"testing"

	"loop.example/g01315/impl"
)

// isPlanOf reports whether lists are a plan: one for each guest, of drawers that there are, none of them twice.
func isPlanOf(guests int, plan [][]int) bool {
	for _, drawers := range plan {
		sorted := slices.Sorted(slices.Values(drawers))
		if len(slices.Compact(slices.Clone(sorted))) != len(drawers) || len(sorted) > 0 && (sorted[0] < 0 || sorted[len(sorted)-1] >= guests) {
			return false
		}
	}
	return len(plan) == guests
}

// listsUpTo returns all lists of up to so many numbers from least up to most.
func listsUpTo(length, least, most int) [][]int {
	all := [][]int{nil}
	for k := 0; k < len(all); k++ {
		for n := least; n <= most && len(all[k]) < length; n++ {
			all = append(all, append(slices.Clone(all[k]), n))
		}
	}
	return all
}

// plansOf returns all plans of so many guests who have each one of some lists of drawers.
func plansOf(guests int, lists [][]int) [][][]int {
	plans := [][][]int{nil}
	for range guests {
		var longer [][][]int
		for _, plan := range plans {
			for _, drawers := range lists {
				longer = append(longer, append(slices.Clone(plan), drawers))
			}
		}
		plans = longer
	}
	return plans
}

// smallPlans returns all plans of so many guests.
func smallPlans(guests int) [][][]int {
	lists := slices.DeleteFunc(listsUpTo(guests, 0, guests-1), func(list []int) bool { return !isPlanOf(guests, slices.Repeat([][]int{list}, guests)) })
	return plansOf(guests, lists)
}

// patternPlans are plans of more guests: none, one, some or all drawers, those on one side, around, backwards, and those of chains.
func patternPlans(guests int) [][][]int {
	var all [][][]int
	plan := func(drawersOf func(guest int) []int) {
		var lists [][]int
		for guest := range guests {
			lists = append(lists, drawersOf(guest))
		}
		all = append(all, lists)
	}
	plan(func(guest int) []int { return nil })
	plan(func(guest int) []int { return []int{0} })
	plan(func(guest int) []int { return inOrder(guests) })
	plan(func(guest int) []int { return inOrder(guest + 1) })
	plan(func(guest int) []int { return backwards(guests)[:guests-guest] })
	plan(func(guest int) []int { return slices.Delete(backwards(guests), guest, guest+1) })
	plan(func(guest int) []int { return inOrder(min(guests, (guests+2)/2)) })
	plan(func(guest int) []int { return []int{(guest + 1) % guests} })
	for tries := 1; tries <= guests; tries++ {
		plan(func(guest int) []int { return slices.Concat(inOrder(guests), inOrder(guests))[guest : guest+tries] })
		for _, list := range [][]int{backwards(guests), append([]int{guests - 1}, inOrder(guests-1)...)} {
			plan(func(guest int) []int {
				opened, _ := lookedInto(list, guest, tries)
				return opened
			})
		}
	}
	return all
}

// plannedFinders returns the guests one of whose drawers has the own number.
func plannedFinders(list []int, plan [][]int) []int {
	return slices.DeleteFunc(inOrder(len(list)), func(guest int) bool { return !slices.Contains(plan[guest], slices.Index(list, guest)) })
}

func TestPlansOfAnyLists(t *testing.T) {
	for guests := 1; guests <= 2; guests++ {
		for length := range 3 {
			for _, plan := range plansOf(length, listsUpTo(3, -1, 2)) {
				is, ok := impl.IsDrawerPlan(guests, plan)
				wantBool(t, fmt.Sprint("IsDrawerPlan ", guests, plan), is, ok, isPlanOf(guests, plan))
			}
		}
	}
	for guests := 1; guests <= 7; guests++ {
		for _, plan := range patternPlans(guests) {
			is, ok := impl.IsDrawerPlan(guests, plan)
			wantBool(t, fmt.Sprint("IsDrawerPlan ", guests, plan), is, ok, true)
			is, ok = impl.IsDrawerPlan(guests, plan[1:])
			wantBool(t, fmt.Sprint("IsDrawerPlan of a guest less ", guests, plan), is, ok, false)
			is, ok = impl.IsDrawerPlan(guests, append(slices.Clone(plan), nil))
			wantBool(t, fmt.Sprint("IsDrawerPlan of a guest more ", guests, plan), is, ok, false)
		}
	}
}

// TestNoPlansForGuests has lists that are no plan for as many guests as there may be.
func TestNoPlansForGuests(t *testing.T) {
	for guests := 1; guests <= 7; guests++ {
		for _, plan := range noPlans(guests) {
			is, ok := impl.IsDrawerPlan(guests, plan)
			wantBool(t, fmt.Sprint("IsDrawerPlan ", guests, plan), is, ok, false)
		}
	}
}

// TestChainPlans has for each guest the drawers that are opened one by one, and the same finders by it.
func TestChainPlans(t *testing.T) {
	lists := append(exchangesUpTo(6), inOrder(7), backwards(7), []int{1, 2, 3, 4, 5, 6, 0}, []int{3, 4, 5, 6, 0, 2, 1})
	for _, list := range lists {
		for tries := 1; tries <= len(list); tries++ {
			what := fmt.Sprint(" ", list, " ", tries)
			var want [][]int
			for guest := range list {
				opened, _ := lookedInto(list, guest, tries)
				want = append(want, opened)
			}
			plan, ok := impl.ChainPlan(list, tries)
			wantLists(t, "ChainPlan"+what, plan, ok, want...)
			is, ok := impl.IsDrawerPlan(len(list), plan)
			wantBool(t, "IsDrawerPlan of ChainPlan"+what, is, ok, true)
			found, ok := impl.PlanFinders(list, plan)
			wantList(t, "PlanFinders by ChainPlan"+what, found, ok, findersAmong(list, tries)...)
		}
	}
	plan, ok := impl.ChainPlan([]int{1, 2, 0, 3}, 2)
	wantLists(t, "ChainPlan with 2 tries", plan, ok, []int{0, 1}, []int{1, 2}, []int{2, 0}, []int{3})
}

// TestFindersByPlans has all plans of few guests and some of more, each with exchanges of as many.
func TestFindersByPlans(t *testing.T) {
	for guests := 1; guests <= 7; guests++ {
		plans := patternPlans(guests)
		if guests <= 3 {
			plans = append(plans, smallPlans(guests)...)
		}
		exchanges := [][]int{inOrder(guests), backwards(guests), append([]int{guests - 1}, inOrder(guests-1)...)}
		if guests <= 4 {
			exchanges = exchangesOf(guests)
		}
		for _, plan := range plans {
			for _, list := range exchanges {
				found, ok := impl.PlanFinders(list, plan)
				wantList(t, fmt.Sprint("PlanFinders ", list, plan), found, ok, plannedFinders(list, plan)...)
			}
		}
	}
	for _, c := range []struct {
		list []int
		plan [][]int
		want []int
	}{
		{[]int{1, 2, 0, 3}, [][]int{{2}, {1, 0}, {3, 2}, {}}, []int{0, 1}}, {[]int{1, 2, 0, 3}, [][]int{{0, 1, 3}, {}, {1}, {3}}, []int{2, 3}},
		{[]int{6, 5, 4, 3, 2, 1, 0}, [][]int{{6}, {6}, {4}, {4}, {2}, {3}, {0, 6}}, []int{0, 2, 4, 6}},
	} {
		found, ok := impl.PlanFinders(c.list, c.plan)
		wantList(t, fmt.Sprint("PlanFinders ", c.list, c.plan), found, ok, c.want...)
	}
}

// winsAmong returns for how many exchanges all find by a plan.
func winsAmong(exchanges [][]int, plan [][]int) int {
	return len(kept(exchanges, func(list []int) bool { return len(plannedFinders(list, plan)) == len(list) }))
}

// TestWinsByPlans holds counts against all exchanges.
func TestWinsByPlans(t *testing.T) {
	for guests := 1; guests <= 7; guests++ {
		exchanges := exchangesOf(guests)
		plans := patternPlans(guests)
		if guests <= 3 {
			plans = append(plans, smallPlans(guests)...)
		}
		for _, plan := range plans {
			wins, ok := impl.CountPlanWins(guests, plan)
			wantNumber(t, fmt.Sprint("CountPlanWins ", guests, plan), wins, ok, winsAmong(exchanges, plan))
		}
	}
	for _, c := range []struct {
		plan [][]int
		want int
	}{
		{slices.Repeat([][]int{inOrder(7)}, 7), 5040}, {slices.Repeat([][]int{inOrder(6)}, 7), 0}, {make([][]int, 7), 0}, {[][]int{{0}, {1}, {2}, {3}, {4}, {5}, {6}}, 1},
		{[][]int{{0, 1, 2}, {2, 1, 0}, {1, 0, 2}, {3, 4}, {4, 3}, {6, 5}, {5, 6}}, 24}, {[][]int{{0, 1}, {1, 0}, {2, 3}, {3, 2}}, 4},
	} {
		wins, ok := impl.CountPlanWins(len(c.plan), c.plan)
		wantNumber(t, fmt.Sprint("CountPlanWins ", c.plan), wins, ok, c.want)
	}
}
