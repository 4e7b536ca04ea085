package tests

import (
	"fmt"
	"slices"
	"testing"

	"loop.example/g01315/impl"
)

// nones are the numbers of exchanges of 0, 1, .. guests in which nobody gets the own coat, as they are known.
var nones = []int{1, 0, 1, 2, 9, 44, 265, 1854, 14833, 133496, 1334961, 14684570, 176214841}

func TestCoatLimit(t *testing.T) {
	if impl.MaxGuests != 12 {
		t.Error("MaxGuests", impl.MaxGuests)
	}
}

func TestCoatExample(t *testing.T) {
	list := []int{1, 2, 0, 3}
	own, ok := impl.OwnCoats(list)
	wantList(t, "OwnCoats", own, ok, 3)
	chains, ok := impl.ChainsOf(list)
	wantLists(t, "ChainsOf", chains, ok, []int{0, 1, 2}, []int{3})
	few, ok := impl.FewestSwaps(list)
	wantNumber(t, "FewestSwaps", few, ok, 2)
	swaps, ok := impl.FirstSwaps(list)
	wantLists(t, "FirstSwaps", swaps, ok, []int{0, 2}, []int{1, 2})
	count, ok := impl.CountNone(4)
	wantNumber(t, "CountNone", count, ok, 9)
	num, den, ok := impl.ChanceNone(4)
	wantPart(t, "ChanceNone", num, den, ok, 3, 8)
	first, ok := impl.FirstNone(4)
	wantList(t, "FirstNone", first, ok, 1, 0, 3, 2)
	next, ok := impl.NextNone(first)
	wantList(t, "NextNone", next, ok, 1, 2, 3, 0)
	times, ok := impl.TimesToRight(list)
	wantNumber(t, "TimesToRight", times, ok, 3)
	text, ok := impl.ExchangeText(list)
	wantText(t, "ExchangeText", text, ok, "1,2,0,3")
	parsed, ok := impl.ParseExchange("1,2,0,3")
	wantList(t, "ParseExchange", parsed, ok, list...)
}

func TestGuestAlone(t *testing.T) {
	alone := []int{0}
	if !impl.IsExchange(alone) {
		t.Error("IsExchange")
	}
	own, ok := impl.OwnCoats(alone)
	wantList(t, "OwnCoats", own, ok, 0)
	chains, ok := impl.ChainsOf(alone)
	wantLists(t, "ChainsOf", chains, ok, []int{0})
	who, ok := impl.WhoHas(alone, 0)
	wantNumber(t, "WhoHas", who, ok, 0)
	back, ok := impl.BackExchange(alone)
	wantList(t, "BackExchange", back, ok, 0)
	both, ok := impl.ThenExchange(alone, alone)
	wantList(t, "ThenExchange", both, ok, 0)
	few, ok := impl.FewestSwaps(alone)
	wantNumber(t, "FewestSwaps", few, ok, 0)
	swaps, ok := impl.FirstSwaps(alone)
	wantLists(t, "FirstSwaps", swaps, ok)
	times, ok := impl.TimesToRight(alone)
	wantNumber(t, "TimesToRight", times, ok, 1)
	text, ok := impl.ExchangeText(alone)
	wantText(t, "ExchangeText", text, ok, "0")
	parsed, ok := impl.ParseExchange("0")
	wantList(t, "ParseExchange", parsed, ok, 0)
}

func TestGuestAloneHasNoOther(t *testing.T) {
	count, ok := impl.CountNone(1)
	wantNumber(t, "CountNone", count, ok, 0)
	count, ok = impl.CountOwn(1, 0)
	wantNumber(t, "CountOwn 0", count, ok, 0)
	count, ok = impl.CountOwn(1, 1)
	wantNumber(t, "CountOwn 1", count, ok, 1)
	num, den, ok := impl.ChanceNone(1)
	wantPart(t, "ChanceNone", num, den, ok, 0, 1)
	list, ok := impl.FirstNone(1)
	wantNothing(t, "FirstNone", list, ok)
	list, ok = impl.NextNone([]int{0})
	wantNothing(t, "NextNone", list, ok)
	list, ok = impl.NoneOfRank(1, 0)
	wantNothing(t, "NoneOfRank", list, ok)
	rank, ok := impl.RankOfNone([]int{0})
	wantNothing(t, "RankOfNone", rank, ok)
	list, ok = impl.SwapCoats([]int{0}, 0, 0)
	wantNothing(t, "SwapCoats", list, ok)
}

func TestIsExchange(t *testing.T) {
	for _, list := range exchangesUpTo(6) {
		if !impl.IsExchange(list) {
			t.Error("no exchange", list)
		}
	}
	for n := 1; n <= 12; n++ {
		if !impl.IsExchange(inOrder(n)) || !impl.IsExchange(backwards(n)) {
			t.Error("no exchange of guests", n)
		}
	}
	for _, list := range noExchanges {
		if impl.IsExchange(list) {
			t.Error("an exchange", list)
		}
	}
}

// TestIsExchangeOfSmallLists holds every list of up to 4 small numbers against what an exchange is.
func TestIsExchangeOfSmallLists(t *testing.T) {
	lists := [][]int{nil}
	for n := 1; n <= 4; n++ {
		exchanges := exchangesOf(n)
		var longer [][]int
		for _, list := range lists {
			for number := -1; number <= 5; number++ {
				longer = append(longer, append(slices.Clone(list), number))
			}
		}
		lists = longer
		for _, list := range lists {
			want := slices.ContainsFunc(exchanges, func(e []int) bool { return slices.Equal(e, list) })
			if impl.IsExchange(list) != want {
				t.Errorf("IsExchange of %v: want %v", list, want)
			}
		}
	}
}

func TestOwnCoats(t *testing.T) {
	for _, list := range exchangesUpTo(6) {
		own, ok := impl.OwnCoats(list)
		wantList(t, fmt.Sprint("OwnCoats of ", list), own, ok, ownIn(list)...)
	}
	own, ok := impl.OwnCoats(inOrder(12))
	wantList(t, "OwnCoats of 12 guests", own, ok, inOrder(12)...)
}

func TestWhoHas(t *testing.T) {
	for _, list := range append(exchangesUpTo(5), backwards(12)) {
		for i, coat := range list {
			who, ok := impl.WhoHas(list, coat)
			wantNumber(t, fmt.Sprint("WhoHas ", coat, " in ", list), who, ok, i)
		}
	}
}

func TestBackExchange(t *testing.T) {
	for _, list := range append(exchangesUpTo(5), backwards(12)) {
		back, ok := impl.BackExchange(list)
		if !ok || len(back) != len(list) {
			t.Error("BackExchange of", list, "is", back, ok)
			continue
		}
		for i, coat := range list {
			if back[coat] != i {
				t.Error("BackExchange of", list, "is", back)
			}
		}
	}
	back, ok := impl.BackExchange([]int{1, 2, 0, 3})
	wantList(t, "BackExchange", back, ok, 2, 0, 1, 3)
}

func TestThenExchange(t *testing.T) {
	both, ok := impl.ThenExchange([]int{1, 2, 0}, []int{1, 0, 2})
	wantList(t, "ThenExchange", both, ok, 2, 1, 0)
	both, ok = impl.ThenExchange([]int{1, 0, 2}, []int{1, 2, 0})
	wantList(t, "ThenExchange the other way", both, ok, 0, 2, 1)
	for n := 1; n <= 4; n++ {
		for _, a := range exchangesOf(n) {
			for _, b := range exchangesOf(n) {
				both, ok := impl.ThenExchange(a, b)
				wantList(t, fmt.Sprint("ThenExchange ", a, b), both, ok, madeBehind(a, b)...)
			}
		}
	}
}

// madeBehind gives each guest i what the guest b[i] has by a.
func madeBehind(a, b []int) []int {
	var both []int
	for _, from := range b {
		both = append(both, a[from])
	}
	return both
}

func TestSwapCoats(t *testing.T) {
	for _, list := range append(exchangesUpTo(5), backwards(12)) {
		for i := range list {
			for j := range list {
				if i == j {
					continue
				}
				want := slices.Clone(list)
				want[i], want[j] = list[j], list[i]
				swapped, ok := impl.SwapCoats(list, i, j)
				wantList(t, fmt.Sprint("SwapCoats ", list, i, j), swapped, ok, want...)
			}
		}
	}
}

func TestExchangeTexts(t *testing.T) {
	for _, list := range append(exchangesUpTo(5), inOrder(12), backwards(12), backwards(11), inOrder(10)) {
		text, ok := impl.ExchangeText(list)
		wantText(t, fmt.Sprint("ExchangeText of ", list), text, ok, textOf(list))
		parsed, ok := impl.ParseExchange(textOf(list))
		wantList(t, "ParseExchange of "+text, parsed, ok, list...)
	}
	text, ok := impl.ExchangeText(backwards(12))
	wantText(t, "ExchangeText of 12 guests", text, ok, "11,10,9,8,7,6,5,4,3,2,1,0")
}
