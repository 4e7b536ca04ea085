package tests

import (
	"fmt"
	"math"
	"strings"
	"testing"

	"loop.example/g01315/impl"
)

// noFamilies are lists that are no families.
var noFamilies = [][]int{
	nil, {}, {1}, {-1}, {9}, {1, 0}, {1, 1}, {0, 2}, {0, -1}, {0, 0, 2}, {0, 1, 3}, {0, 2, 1}, {0, 1, 1, 3, 2}, {0, 1, 2, 3, -4}, {-1, 0, 1},
	{math.MinInt}, {math.MaxInt}, {0, math.MaxInt}, {0, math.MinInt}, {0, 1 << 32}, {0, 256},
	{0, 1, 2, 3, 4, 5, 6, 7, 9}, {0, 0, 0, 0, 0, 0, 0, 0, 2}, {0, 0, 0, 0, 0, 0, 0, 0, 0, 0}, {0, 1, 2, 3, 4, 5, 6, 7, 8, 9}, {0, 0, 0, 0, 0, 1, 1, 1, 1, 1},
	{0, 0, 0, 0, 0, 0, 1, 1, 1, 1, 1, 1}, inOrder(64), make([]int, 1000),
}

// noFamilyTexts are no FamiliesTexts.
var noFamilyTexts = []string{
	"", "1", "-0", "+0", " 0", "0 ", "0\n", "0\x00", "\x000", "0,1", "0,", "10", "02", "0132", "00112233449", "0123456780", "0000000000", "0123456789",
	"a", "0a", "0:", "0/", "0\xff", "٠", "０", "0x1", "0.1", "012345679", "01234567:", "\xd0", strings.Repeat("0", 1000), strings.Repeat("0", 1<<16),
}

func TestListsThatAreNoFamilies(t *testing.T) {
	for _, list := range noFamilies {
		what := fmt.Sprint(" of ", list)
		sizes, ok := impl.FamilySizes(list)
		wantNothing(t, "FamilySizes"+what, sizes, ok)
		can, ok := impl.CanGive(list)
		wantNothing(t, "CanGive"+what, can, ok)
		count, ok := impl.CountGivings(list)
		wantNothing(t, "CountGivings"+what, count, ok)
		count, ok = impl.CountRings(list)
		wantNothing(t, "CountRings"+what, count, ok)
		count, ok = impl.CountMutual(list)
		wantNothing(t, "CountMutual"+what, count, ok)
		first, ok := impl.FirstGiving(list)
		wantNothing(t, "FirstGiving"+what, first, ok)
		first, ok = impl.FirstRing(list)
		wantNothing(t, "FirstRing"+what, first, ok)
		ranked, ok := impl.GivingOfRank(list, 0)
		wantNothing(t, "GivingOfRank"+what, ranked, ok)
		joined, ok := impl.JoinFamilies(list, 0, 1)
		wantNothing(t, "JoinFamilies"+what, joined, ok)
		left, ok := impl.LeaveFamily(list, 0)
		wantNothing(t, "LeaveFamily"+what, left, ok)
		text, ok := impl.FamiliesText(list)
		wantNothing(t, "FamiliesText"+what, text, ok)
		for _, exchange := range [][]int{{0}, {1, 0}, {1, 2, 0}, backwards(9), backwards(10), backwards(12), list, inOrder(len(list))} {
			noGivingAt(t, list, exchange)
		}
	}
}

// noGivingAt requires of each function of families and an exchange that it fails.
func noGivingAt(t *testing.T, families, list []int) {
	t.Helper()
	what := fmt.Sprint(" ", families, list)
	is, ok := impl.IsGiving(families, list)
	wantNothing(t, "IsGiving"+what, is, ok)
	next, ok := impl.NextGiving(families, list)
	wantNothing(t, "NextGiving"+what, next, ok)
	rank, ok := impl.RankOfGiving(families, list)
	wantNothing(t, "RankOfGiving"+what, rank, ok)
	gifts, ok := impl.GiftsBetween(families, list)
	wantNothing(t, "GiftsBetween"+what, gifts, ok)
}

func TestFamiliesWithNoExchange(t *testing.T) {
	for _, families := range append(familiesUpTo(4), nineGivers...) {
		for _, list := range noExchanges {
			noGivingAt(t, families, list)
		}
		for n := 1; n <= 12; n++ {
			if n != len(families) {
				noGivingAt(t, families, backwards(n))
				noGivingAt(t, families, inOrder(n))
			}
		}
	}
}

func TestExchangesThatAreNoGivings(t *testing.T) {
	for _, families := range familiesUpTo(5) {
		for _, list := range exchangesOf(len(families)) {
			if isGivingOf(families, list) {
				continue
			}
			rank, ok := impl.RankOfGiving(families, list)
			wantNothing(t, fmt.Sprint("RankOfGiving ", families, list), rank, ok)
			gifts, ok := impl.GiftsBetween(families, list)
			wantNothing(t, fmt.Sprint("GiftsBetween ", families, list), gifts, ok)
		}
	}
	rank, ok := impl.RankOfGiving([]int{0, 1, 2, 3, 4, 5, 6, 7, 0}, []int{1, 2, 3, 4, 5, 6, 7, 8, 0})
	wantNothing(t, "RankOfGiving of nine with the last gift in a family", rank, ok)
}

func TestNoSuchFamilies(t *testing.T) {
	for _, families := range append(familiesUpTo(4), nineGivers...) {
		n := len(sizesIn(families))
		for _, number := range []int{-1, n, n + 1, -n, 9, math.MinInt, math.MaxInt, 1 << 32} {
			for other := range n {
				joined, ok := impl.JoinFamilies(families, number, other)
				wantNothing(t, fmt.Sprint("JoinFamilies ", families, number, other), joined, ok)
				joined, ok = impl.JoinFamilies(families, other, number)
				wantNothing(t, fmt.Sprint("JoinFamilies ", families, other, number), joined, ok)
			}
			joined, ok := impl.JoinFamilies(families, number, number)
			wantNothing(t, fmt.Sprint("JoinFamilies ", families, number, number), joined, ok)
		}
	}
}

func TestNoSuchGivers(t *testing.T) {
	for _, families := range append(familiesUpTo(4), nineGivers...) {
		n := len(families)
		for _, guest := range []int{-1, n, n + 1, -n, 12, math.MinInt, math.MaxInt, 1 << 32} {
			left, ok := impl.LeaveFamily(families, guest)
			wantNothing(t, fmt.Sprint("LeaveFamily ", families, guest), left, ok)
		}
	}
}

func TestNoSuchGivingRanks(t *testing.T) {
	for _, families := range append(familiesUpTo(5), nineGivers...) {
		count, _ := impl.CountGivings(families)
		for _, rank := range []int{-1, count, count + 1, -count - 1, math.MinInt, math.MaxInt} {
			list, ok := impl.GivingOfRank(families, rank)
			wantNothing(t, fmt.Sprint("GivingOfRank ", families, rank), list, ok)
		}
	}
}

func TestNoFamilyTexts(t *testing.T) {
	for _, text := range noFamilyTexts {
		families, ok := impl.ParseFamilies(text)
		wantNothing(t, fmt.Sprintf("ParseFamilies of %.20q", text), families, ok)
	}
}
