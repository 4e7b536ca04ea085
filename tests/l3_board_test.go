package tests

import (
	"fmt"
	"strings"
	"testing"

	"loop.example/g01315/impl"
)

// boardWhere returns the board on which a place is forbidden if it is told to be.
func boardWhere(side int, forbidden func(i, j int) bool) string {
	rows := make([]string, side)
	for i := range side {
		for j := range side {
			if forbidden(i, j) {
				rows[i] += "#"
			} else {
				rows[i] += "."
			}
		}
	}
	return strings.Join(rows, "/")
}

// boardsOf returns every so-manieth one of all boards of a side.
func boardsOf(side, step int) []string {
	var all []string
	for number := 0; number < 1<<(side*side); number += step {
		all = append(all, boardWhere(side, func(i, j int) bool { return number>>(i*side+j)&1 == 1 }))
	}
	return all
}

// smallBoards are all boards of a side up to 3 and some of 4.
func smallBoards() []string {
	all := boardsOf(4, 211)
	for side := 1; side <= 3; side++ {
		all = append(all, boardsOf(side, 1)...)
	}
	return append(all, boardWhere(4, everywhere))
}

func nowhere(i, j int) bool { return false }

func everywhere(i, j int) bool { return true }

// patterns tell of places that they are forbidden, on boards of any side.
func patterns() []func(i, j int) bool {
	return []func(i, j int) bool{
		nowhere, everywhere,
		func(i, j int) bool { return i == j },
		func(i, j int) bool { return j <= i },
		func(i, j int) bool { return (i+j)%2 == 0 },
		func(i, j int) bool { return i == 2 || j == 1 },
		func(i, j int) bool { return i%3 == 1 },
		func(i, j int) bool { return j == 3 && i > 1 },
		func(i, j int) bool { return i < 3 && j > 2 || i == 4 },
		func(i, j int) bool { return (3*i+5*j+i*j)%7 < 3 },
		func(i, j int) bool { return (2*i*i+3*j)%5 < 2 },
		func(i, j int) bool { return i+j > 3 && (i*j)%4 != 0 },
	}
}

// greaterBoards are boards of these sides, one of each pattern.
func greaterBoards(sides ...int) []string {
	var all []string
	for _, side := range sides {
		for _, forbidden := range patterns() {
			all = append(all, boardWhere(side, forbidden))
		}
	}
	return all
}

func manyBoards() []string {
	return append(smallBoards(), greaterBoards(5, 6, 7, 8)...)
}

// sideOf tells the side of a board by its rows.
func sideOf(b string) int {
	return strings.Count(b, "/") + 1
}

func isForbidden(b string, i, j int) bool {
	return strings.Split(b, "/")[i][j] == '#'
}

func TestBoardLimit(t *testing.T) {
	if impl.MaxSide != 8 {
		t.Error("MaxSide", impl.MaxSide)
	}
}

func TestBoardExample(t *testing.T) {
	rooks, ok := impl.RookNumbers("#./.#")
	wantList(t, "RookNumbers", rooks, ok, 1, 2, 1)
	hits, ok := impl.HitNumbers("#./.#")
	wantList(t, "HitNumbers", hits, ok, 1, 0, 1)
	first, ok := impl.FirstAllowed("#./.#")
	wantList(t, "FirstAllowed", first, ok, 1, 0)
	couples, ok := impl.CoupleBoard(3)
	wantText(t, "CoupleBoard", couples, ok, "##./.##/#.#")
	count, ok := impl.CountAllowed("##./.##/#.#")
	wantNumber(t, "CountAllowed", count, ok, 1)
	first, ok = impl.FirstAllowed("##./.##/#.#")
	wantList(t, "FirstAllowed of couples", first, ok, 2, 0, 1)
	most, ok := impl.MostRooks("##/..")
	wantNumber(t, "MostRooks", most, ok, 1)
	rows, columns, ok := impl.FewestLines("##/..")
	wantList(t, "rows of FewestLines", rows, ok, 0)
	wantList(t, "columns of FewestLines", columns, ok)
}

func TestIsBoard(t *testing.T) {
	for _, b := range manyBoards() {
		if !impl.IsBoard(b) {
			t.Error("no board", b)
		}
	}
	for _, b := range noBoards() {
		if impl.IsBoard(b) {
			t.Error("a board", b)
		}
	}
}

// TestIsBoardOfShortTexts holds every short text of a few signs against the boards that there are.
func TestIsBoardOfShortTexts(t *testing.T) {
	known := map[string]bool{}
	for _, b := range append(boardsOf(1, 1), boardsOf(2, 1)...) {
		known[b] = true
	}
	texts := []string{""}
	for range 6 {
		var longer []string
		for _, text := range texts {
			for _, sign := range "./#, " {
				longer = append(longer, text+string(sign))
			}
		}
		texts = longer
		for _, text := range texts {
			if impl.IsBoard(text) != known[text] {
				t.Errorf("IsBoard of %q: want %v", text, known[text])
			}
		}
	}
}

func TestSideAndForbiddenPlaces(t *testing.T) {
	for _, b := range manyBoards() {
		side, ok := impl.SideOf(b)
		wantNumber(t, "SideOf "+b, side, ok, sideOf(b))
		var want [][]int
		for i := range sideOf(b) {
			for j := range sideOf(b) {
				if isForbidden(b, i, j) {
					want = append(want, []int{i, j})
				}
			}
		}
		places, ok := impl.ForbiddenOf(b)
		wantLists(t, "ForbiddenOf "+b, places, ok, want...)
	}
	places, ok := impl.ForbiddenOf("##./.##/#.#")
	wantLists(t, "ForbiddenOf", places, ok, []int{0, 0}, []int{0, 1}, []int{1, 1}, []int{1, 2}, []int{2, 0}, []int{2, 2})
}

func TestBoardOfOnePlace(t *testing.T) {
	for b, forbidden := range map[string]int{".": 0, "#": 1} {
		side, ok := impl.SideOf(b)
		wantNumber(t, "SideOf "+b, side, ok, 1)
		is, ok := impl.IsAllowed(b, []int{0})
		wantBool(t, "IsAllowed "+b, is, ok, forbidden == 0)
		hits, ok := impl.HitsOf(b, []int{0})
		wantNumber(t, "HitsOf "+b, hits, ok, forbidden)
		rooks, ok := impl.RookNumbers(b)
		wantList(t, "RookNumbers "+b, rooks, ok, 1, forbidden)
		numbers, ok := impl.HitNumbers(b)
		wantList(t, "HitNumbers "+b, numbers, ok, 1-forbidden, forbidden)
		count, ok := impl.CountAllowed(b)
		wantNumber(t, "CountAllowed "+b, count, ok, 1-forbidden)
		most, ok := impl.MostRooks(b)
		wantNumber(t, "MostRooks "+b, most, ok, forbidden)
		next, ok := impl.NextAllowed(b, []int{0})
		wantNothing(t, "NextAllowed "+b, next, ok)
		turned, ok := impl.TurnedBoard(b)
		wantText(t, "TurnedBoard "+b, turned, ok, b)
	}
	first, ok := impl.FirstAllowed(".")
	wantList(t, "FirstAllowed .", first, ok, 0)
	first, ok = impl.FirstAllowed("#")
	wantNothing(t, "FirstAllowed #", first, ok)
	rows, columns, ok := impl.FewestLines(".")
	wantList(t, "rows of .", rows, ok)
	wantList(t, "columns of .", columns, ok)
	rows, columns, ok = impl.FewestLines("#")
	wantList(t, "rows of #", rows, ok)
	wantList(t, "columns of #", columns, ok, 0)
}

func TestOtherAndTurnedBoards(t *testing.T) {
	for _, b := range manyBoards() {
		n := sideOf(b)
		other, ok := impl.OtherBoard(b)
		wantText(t, "OtherBoard "+b, other, ok, boardWhere(n, func(i, j int) bool { return !isForbidden(b, i, j) }))
		turned, ok := impl.TurnedBoard(b)
		wantText(t, "TurnedBoard "+b, turned, ok, boardWhere(n, func(i, j int) bool { return isForbidden(b, j, i) }))
	}
	other, ok := impl.OtherBoard("##./.##/#.#")
	wantText(t, "OtherBoard", other, ok, "..#/#../.#.")
	turned, ok := impl.TurnedBoard("##./.##/#.#")
	wantText(t, "TurnedBoard", turned, ok, "#.#/##./.##")
}

func TestJoinedBoards(t *testing.T) {
	boards := append(greaterBoards(1, 2, 3, 4, 5, 6, 7), boardsOf(2, 1)...)
	for _, a := range boards {
		for _, b := range boards {
			n := sideOf(a)
			joined, ok := impl.JoinBoards(a, b)
			if n+sideOf(b) > 8 {
				wantNothing(t, fmt.Sprint("JoinBoards ", a, " ", b), joined, ok)
				continue
			}
			wantText(t, fmt.Sprint("JoinBoards ", a, " ", b), joined, ok, boardWhere(n+sideOf(b), func(i, j int) bool {
				return i < n && j < n && isForbidden(a, i, j) || i >= n && j >= n && isForbidden(b, i-n, j-n)
			}))
		}
	}
	joined, ok := impl.JoinBoards("##/#.", "#")
	wantText(t, "JoinBoards", joined, ok, "##./#../..#")
}

// TestJoinedRooks requires of joined boards that their rooks are those of both in all ways.
func TestJoinedRooks(t *testing.T) {
	for _, a := range append(greaterBoards(1, 4), boardsOf(2, 1)...) {
		for _, b := range greaterBoards(2, 3, 4) {
			joined, _ := impl.JoinBoards(a, b)
			rooksA, _ := impl.RookNumbers(a)
			rooksB, _ := impl.RookNumbers(b)
			want := make([]int, sideOf(a)+sideOf(b)+1)
			for k, n := range rooksA {
				for l, m := range rooksB {
					want[k+l] += n * m
				}
			}
			rooks, ok := impl.RookNumbers(joined)
			wantList(t, "RookNumbers of the joined board "+joined, rooks, ok, want...)
		}
	}
}

func TestOwnAndCoupleBoards(t *testing.T) {
	couples := []int{0, 0, 0, 1, 2, 13, 80, 579, 4738}
	for n := 1; n <= 8; n++ {
		own, ok := impl.OwnBoard(n)
		wantText(t, fmt.Sprint("OwnBoard ", n), own, ok, boardWhere(n, func(i, j int) bool { return i == j }))
		hits, ok := impl.HitNumbers(own)
		want := make([]int, n+1)
		for k := range want {
			want[k], _ = impl.CountOwn(n, k)
		}
		wantList(t, "HitNumbers of "+own, hits, ok, want...)
		board, ok := impl.CoupleBoard(n)
		wantText(t, fmt.Sprint("CoupleBoard ", n), board, ok, boardWhere(n, func(i, j int) bool { return j == i || j == i+1 || j == 0 && i == n-1 }))
		count, ok := impl.CountAllowed(board)
		wantNumber(t, "CountAllowed of "+board, count, ok, couples[n])
	}
	for n, want := range map[int]string{1: "#", 2: "##/##", 4: "##../.##./..##/#..#"} {
		board, ok := impl.CoupleBoard(n)
		wantText(t, "CoupleBoard", board, ok, want)
	}
	own, ok := impl.OwnBoard(3)
	wantText(t, "OwnBoard", own, ok, "#../.#./..#")
}

// TestForbidAndAllowPlaces tries every place of each board both ways.
func TestForbidAndAllowPlaces(t *testing.T) {
	for _, b := range manyBoards() {
		n := sideOf(b)
		for i := range n {
			for j := range n {
				what := fmt.Sprint(" ", b, " ", i, " ", j)
				is := isForbidden(b, i, j)
				want := boardWhere(n, func(k, l int) bool { return isForbidden(b, k, l) != (k == i && l == j) })
				forbid, okForbid := impl.ForbidPlace(b, i, j)
				allow, okAllow := impl.AllowPlace(b, i, j)
				if is {
					wantText(t, "AllowPlace"+what, allow, okAllow, want)
					wantNothing(t, "ForbidPlace"+what, forbid, okForbid)
				} else {
					wantText(t, "ForbidPlace"+what, forbid, okForbid, want)
					wantNothing(t, "AllowPlace"+what, allow, okAllow)
				}
			}
		}
	}
}
