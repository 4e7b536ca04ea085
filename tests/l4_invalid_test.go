package tests

import (
	"fmt"
	"math"
	"testing"

	"loop.example/g01315/impl"
)

// noTables are lists that are no tables.
func noTables() [][]int {
	return [][]int{
		nil, {}, {0}, {1}, {-1}, {0, 0}, {1, 1}, {0, 2}, {1, 2}, {2, 3}, {-1, 0}, {0, -1}, {-2, -1}, {0, 1, 2}, {2, 0, 1}, {0, 1, 1}, {0, 1, 2, 3, 4},
		{0, 1, 2, 2}, {1, 2, 3, 1}, {0, 1, 2, 4}, {1, 2, 3, 4}, {0, 1, 2, -1}, {0, 0, 1, 1}, {3, 3, 3, 3}, {0, 2, 1, 4, 3, 6}, {0, 2, 1, 4, 3, 3},
		{0, math.MaxInt}, {math.MinInt, 0}, {1 << 32, 1}, {0, 257}, {0, 1, 2, 3 + 1<<32}, {0, 16}, {0, 64}, {0, 65}, {0, 1, 2, 19},
		inOrder(7), inOrder(9), inOrder(13), inOrder(15), backwards(15), inOrder(16), backwards(16), inOrder(18), inOrder(28), inOrder(64), inOrder(128),
		{0, 1, 2, 3, 4, 5, 6, 7, 8, 9, 10, 11, 12, 14}, {1, 2, 3, 4, 5, 6, 7, 8, 9, 10, 11, 12, 13, 14}, {0, 1, 2, 3, 4, 5, 6, 7, 8, 9, 10, 11, 12, 12},
		{0, 2, 1, 3, 4, 6, 5, 7, 8, 10, 9, 12, 11, 13, 0}, {0, 2, 1, 3, 4, 6, 5, 7, 8, 10, 9, 12, 11, 0}, make([]int, 14), make([]int, 16), make([]int, 1000),
	}
}

// noCouples are numbers of couples that there cannot be.
var noCouples = []int{0, -1, -7, 8, 9, 14, 32, 64, math.MinInt, math.MaxInt, 1<<32 + 2, math.MinInt + 3}

func TestListsThatAreNoTables(t *testing.T) {
	for _, list := range noTables() {
		what := fmt.Sprint(" of ", list)
		together, ok := impl.CouplesTogether(list)
		wantNothing(t, "CouplesTogether"+what, together, ok)
		together, ok = impl.CouplesInRow(list)
		wantNothing(t, "CouplesInRow"+what, together, ok)
		is, ok := impl.IsInTurn(list)
		wantNothing(t, "IsInTurn"+what, is, ok)
		next, ok := impl.NextApart(list)
		wantNothing(t, "NextApart"+what, next, ok)
		mirrored, ok := impl.MirrorTable(list)
		wantNothing(t, "MirrorTable"+what, mirrored, ok)
		first, ok := impl.FirstTable(list)
		wantNothing(t, "FirstTable"+what, first, ok)
		swaps, ok := impl.SwapsToPart(list)
		wantNothing(t, "SwapsToPart"+what, swaps, ok)
		for _, number := range []int{0, 1, -1, 2, len(list) - 1, len(list), math.MinInt, math.MaxInt} {
			noPlaceAtTable(t, list, number)
			noGuestAtTable(t, list, number)
		}
	}
}

func noPlaceAtTable(t *testing.T, list []int, by int) {
	t.Helper()
	turned, ok := impl.TurnTable(list, by)
	wantNothing(t, fmt.Sprint("TurnTable ", list, " ", by), turned, ok)
}

func noGuestAtTable(t *testing.T, list []int, guest int) {
	t.Helper()
	before, behind, ok := impl.NeighboursOf(list, guest)
	wantNothing(t, fmt.Sprint("NeighboursOf ", list, " ", guest), before, behind, ok)
}

func TestNoSuchPlacesAndGuestsAtTables(t *testing.T) {
	for _, list := range manyTables() {
		n := len(list)
		for _, number := range []int{-1, n, n + 1, 2 * n, -n, 14, 256, math.MinInt, math.MaxInt, 1 << 32} {
			noPlaceAtTable(t, list, number)
			noGuestAtTable(t, list, number)
		}
	}
}

func TestNoSuchCouples(t *testing.T) {
	for _, n := range noCouples {
		what := fmt.Sprint(" of couples ", n)
		round, ok := impl.CountRound(n)
		wantNothing(t, "CountRound"+what, round, ok)
		turn, ok := impl.CountInTurn(n)
		wantNothing(t, "CountInTurn"+what, turn, ok)
		num, den, ok := impl.ChanceApart(n)
		wantNothing(t, "ChanceApart"+what, num, den, ok)
		first, ok := impl.FirstApart(n)
		wantNothing(t, "FirstApart"+what, first, ok)
		for _, together := range []int{0, 1, 2, n - 1, n, n + 1, -1} {
			noCountsBy(t, n, together)
		}
	}
}

// noCountsBy requires of each function that counts by couples together that it fails.
func noCountsBy(t *testing.T, couples, together int) {
	t.Helper()
	what := fmt.Sprint(" ", couples, " ", together)
	count, ok := impl.CountTogether(couples, together)
	wantNothing(t, "CountTogether"+what, count, ok)
	count, ok = impl.CountInRow(couples, together)
	wantNothing(t, "CountInRow"+what, count, ok)
	count, ok = impl.CountTurnTogether(couples, together)
	wantNothing(t, "CountTurnTogether"+what, count, ok)
}

func TestNoSuchCouplesTogether(t *testing.T) {
	for n := 1; n <= 7; n++ {
		for _, together := range []int{-1, n + 1, n + 2, -n, 8, 2 * n, math.MinInt, math.MaxInt, 1 << 32} {
			if together > n || together < 0 {
				noCountsBy(t, n, together)
			}
		}
	}
}
