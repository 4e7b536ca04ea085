package tests

import (
	"fmt"
	"math"
	"strings"
	"testing"

	"loop.example/g01315/impl"
)

// noBoards are texts that are no boards.
func noBoards() []string {
	return []string{
		"", "/", "//", "./", "/.", "#/", "/#", "././.", ".././", "../../", "/../..", "..//..", ".././..", "..", "##", "...", ".#.", "#./.", "./#.", "./.",
		"../...", ".../..", "../.", "...../.....", ".../...", ".../.../..", ".../.../....", ".../..../...", ".../.../.../", "/.../.../...", "...//.../...", "../../..",
		"x", "0", " ", "\n", "\x00", ",", "-", "_", "\\", "|", ".\n", "#\n", "\n#", "# ", " #", "..\n..", "..,..", "..|..", "..\\..", "#./.x", "#./.\x00", "X#/##", "../. ",
		"·", "．", "＃", "..／..", "\xff", "\x23\x80", "#·/.", "../.\xae", "##./.##/#.", "##./.##/#.##", "##./.##/#.#/", "##./.##/#.#\n", "1,0",
		boardWhere(9, nowhere), boardWhere(9, everywhere), boardWhere(10, nowhere), boardWhere(64, everywhere), boardWhere(8, everywhere) + "/", "/" + boardWhere(8, nowhere),
		boardWhere(8, nowhere) + ".", boardWhere(8, nowhere) + "/........", boardWhere(8, everywhere)[1:], boardWhere(8, everywhere)[:70], boardWhere(8, nowhere)[:62],
		boardWhere(8, everywhere)[:70] + "x", strings.Repeat(".", 71), strings.Repeat("/", 8), strings.Repeat("/", 71),
		strings.Repeat("#", 1000), strings.Repeat("/", 1000), strings.Repeat("./", 1000), strings.Repeat("#", 1<<16),
	}
}

func TestTextsThatAreNoBoards(t *testing.T) {
	for _, b := range noBoards() {
		what := fmt.Sprintf(" of %.80q", b)
		side, ok := impl.SideOf(b)
		wantNothing(t, "SideOf"+what, side, ok)
		places, ok := impl.ForbiddenOf(b)
		wantNothing(t, "ForbiddenOf"+what, places, ok)
		rooks, ok := impl.RookNumbers(b)
		wantNothing(t, "RookNumbers"+what, rooks, ok)
		hits, ok := impl.HitNumbers(b)
		wantNothing(t, "HitNumbers"+what, hits, ok)
		count, ok := impl.CountAllowed(b)
		wantNothing(t, "CountAllowed"+what, count, ok)
		first, ok := impl.FirstAllowed(b)
		wantNothing(t, "FirstAllowed"+what, first, ok)
		most, ok := impl.MostRooks(b)
		wantNothing(t, "MostRooks"+what, most, ok)
		rows, columns, ok := impl.FewestLines(b)
		wantNothing(t, "FewestLines"+what, rows, columns, ok)
		other, ok := impl.OtherBoard(b)
		wantNothing(t, "OtherBoard"+what, other, ok)
		turned, ok := impl.TurnedBoard(b)
		wantNothing(t, "TurnedBoard"+what, turned, ok)
		for _, list := range [][]int{nil, {0}, {1, 0}, inOrder(3), backwards(8), inOrder(9), {0, 0}} {
			noHitsAt(t, b, list)
		}
		for i := -1; i <= 3; i++ {
			for j := -1; j <= 3; j++ {
				noPlaceAt(t, b, i, j)
			}
		}
	}
}

// noHitsAt requires of each function of a board and an exchange that it fails.
func noHitsAt(t *testing.T, b string, list []int) {
	t.Helper()
	what := fmt.Sprintf(" %.80q %v", b, list)
	is, ok := impl.IsAllowed(b, list)
	wantNothing(t, "IsAllowed"+what, is, ok)
	hits, ok := impl.HitsOf(b, list)
	wantNothing(t, "HitsOf"+what, hits, ok)
	next, ok := impl.NextAllowed(b, list)
	wantNothing(t, "NextAllowed"+what, next, ok)
}

// noPlaceAt requires of each function of a board and a place that it fails.
func noPlaceAt(t *testing.T, b string, i, j int) {
	t.Helper()
	what := fmt.Sprintf(" %.80q %d %d", b, i, j)
	forbid, ok := impl.ForbidPlace(b, i, j)
	wantNothing(t, "ForbidPlace"+what, forbid, ok)
	allow, ok := impl.AllowPlace(b, i, j)
	wantNothing(t, "AllowPlace"+what, allow, ok)
}

func TestBoardsWithNoExchange(t *testing.T) {
	for _, b := range greaterBoards(1, 2, 3, 4, 8) {
		for _, list := range noExchanges {
			noHitsAt(t, b, list)
		}
		for n := 1; n <= 12; n++ {
			if n != sideOf(b) {
				noHitsAt(t, b, inOrder(n))
				noHitsAt(t, b, backwards(n))
			}
		}
	}
}

func TestNoSuchPlaces(t *testing.T) {
	for _, b := range greaterBoards(1, 2, 3, 8) {
		n := sideOf(b)
		for _, outside := range []int{-1, n, n + 1, -n, 9, 256, math.MinInt, math.MaxInt, 1 << 32} {
			for within := range n {
				noPlaceAt(t, b, outside, within)
				noPlaceAt(t, b, within, outside)
			}
			noPlaceAt(t, b, outside, outside)
		}
	}
}

func TestNoSuchSides(t *testing.T) {
	for _, side := range []int{0, -1, -8, 9, 10, 12, 64, math.MinInt, math.MaxInt, 1<<32 + 3} {
		own, ok := impl.OwnBoard(side)
		wantNothing(t, fmt.Sprint("OwnBoard ", side), own, ok)
		couples, ok := impl.CoupleBoard(side)
		wantNothing(t, fmt.Sprint("CoupleBoard ", side), couples, ok)
	}
}

func TestJoinBoardsFails(t *testing.T) {
	for _, b := range noBoards() {
		for _, other := range append(noBoards(), ".", "#", "#./.#", boardWhere(7, nowhere), boardWhere(8, everywhere)) {
			joined, ok := impl.JoinBoards(b, other)
			wantNothing(t, fmt.Sprintf("JoinBoards %.80q %.80q", b, other), joined, ok)
			joined, ok = impl.JoinBoards(other, b)
			wantNothing(t, fmt.Sprintf("JoinBoards %.80q %.80q", other, b), joined, ok)
		}
	}
	for n := 1; n <= 8; n++ {
		for m := 9 - n; m <= 8; m++ {
			joined, ok := impl.JoinBoards(boardWhere(n, everywhere), boardWhere(m, nowhere))
			wantNothing(t, fmt.Sprint("JoinBoards of sides ", n, m), joined, ok)
		}
	}
}
