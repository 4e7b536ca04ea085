package tests

import (
	"fmt"
	"slices"
	"testing"

	"loop.example/g01315/impl"
)

// hitsIn counts the guests who get coats that are forbidden.
func hitsIn(b string, list []int) int {
	hits := 0
	for i, coat := range list {
		if isForbidden(b, i, coat) {
			hits++
		}
	}
	return hits
}

// hitsAmong counts exchanges by how often they hit.
func hitsAmong(b string, exchanges [][]int) []int {
	numbers := make([]int, sideOf(b)+1)
	for _, list := range exchanges {
		numbers[hitsIn(b, list)]++
	}
	return numbers
}

// rooksPut counts the ways to put rooks by trying each place of each row, and none.
func rooksPut(b string) []int {
	numbers := make([]int, sideOf(b)+1)
	var put func(row int, columns []int)
	put = func(row int, columns []int) {
		if row == sideOf(b) {
			numbers[len(columns)]++
			return
		}
		put(row+1, columns)
		for j := range sideOf(b) {
			if isForbidden(b, row, j) && !slices.Contains(columns, j) {
				put(row+1, append(slices.Clone(columns), j))
			}
		}
	}
	put(0, nil)
	return numbers
}

// allowedAmong returns those exchanges that hit nothing.
func allowedAmong(b string, exchanges [][]int) [][]int {
	return kept(exchanges, func(list []int) bool { return hitsIn(b, list) == 0 })
}

func TestHitsOfExchanges(t *testing.T) {
	for _, b := range append(smallBoards(), greaterBoards(5)...) {
		for _, list := range exchangesOf(sideOf(b)) {
			what := fmt.Sprint(" ", b, " ", list)
			hits, ok := impl.HitsOf(b, list)
			wantNumber(t, "HitsOf"+what, hits, ok, hitsIn(b, list))
			is, ok := impl.IsAllowed(b, list)
			wantBool(t, "IsAllowed"+what, is, ok, hitsIn(b, list) == 0)
		}
	}
	for _, b := range greaterBoards(8) {
		for _, list := range [][]int{inOrder(8), backwards(8), {1, 0, 3, 2, 5, 4, 7, 6}, {3, 5, 7, 1, 0, 2, 6, 4}} {
			hits, ok := impl.HitsOf(b, list)
			wantNumber(t, fmt.Sprint("HitsOf ", b, list), hits, ok, hitsIn(b, list))
		}
	}
}

// TestHitsAreCountedByRooks holds both numbers against what is counted one by one, and the hits against the rooks:
// each k rooks are k hits of as many exchanges as the other guests can make.
func TestHitsAreCountedByRooks(t *testing.T) {
	for _, b := range append(smallBoards(), greaterBoards(5, 6)...) {
		n := sideOf(b)
		rooks, ok := impl.RookNumbers(b)
		wantList(t, "RookNumbers "+b, rooks, ok, rooksPut(b)...)
		want := hitsAmong(b, exchangesOf(n))
		hits, ok := impl.HitNumbers(b)
		wantList(t, "HitNumbers "+b, hits, ok, want...)
		count, ok := impl.CountAllowed(b)
		wantNumber(t, "CountAllowed "+b, count, ok, want[0])
		for k, number := range rooks {
			chosen := 0
			for more := k; more < len(hits); more++ {
				chosen += hits[more] * product(more) / product(k) / product(more-k)
			}
			wantNumber(t, fmt.Sprint("hits chosen on ", b, " ", k), chosen, true, number*product(n-k))
		}
	}
}

func TestNumbersOfGreatestBoards(t *testing.T) {
	exchanges := exchangesOf(8)
	for _, b := range []string{greaterBoards(8)[5], greaterBoards(8)[9], greaterBoards(8)[10], greaterBoards(8)[11]} {
		want := hitsAmong(b, exchanges)
		hits, ok := impl.HitNumbers(b)
		wantList(t, "HitNumbers "+b, hits, ok, want...)
		count, ok := impl.CountAllowed(b)
		wantNumber(t, "CountAllowed "+b, count, ok, want[0])
		rooks, ok := impl.RookNumbers(b)
		wantList(t, "RookNumbers "+b, rooks, ok, rooksPut(b)...)
	}
}

// TestKnownRooks has numbers that are known otherwise, on boards without forbidden places, with all, and with stairs of them.
func TestKnownRooks(t *testing.T) {
	for n := 1; n <= 8; n++ {
		empty, full := boardWhere(n, nowhere), boardWhere(n, everywhere)
		none, all := make([]int, n+1), make([]int, n+1)
		none[0], all[n] = product(n), product(n)
		hits, ok := impl.HitNumbers(empty)
		wantList(t, "HitNumbers of no place", hits, ok, none...)
		hits, ok = impl.HitNumbers(full)
		wantList(t, "HitNumbers of all places", hits, ok, all...)
		none[0] = 1
		rooks, ok := impl.RookNumbers(empty)
		wantList(t, "RookNumbers of no place", rooks, ok, none...)
		for k := range all {
			choices := product(n) / product(k) / product(n-k)
			all[k] = choices * choices * product(k)
		}
		rooks, ok = impl.RookNumbers(full)
		wantList(t, "RookNumbers of all places", rooks, ok, all...)
	}
	rooks, ok := impl.RookNumbers(boardWhere(8, func(i, j int) bool { return j <= i }))
	wantList(t, "RookNumbers of stairs", rooks, ok, 1, 36, 462, 2646, 6951, 7770, 3025, 255, 1)
	hits, ok := impl.HitNumbers(boardWhere(4, func(i, j int) bool { return j < i }))
	wantList(t, "HitNumbers of stairs", hits, ok, 1, 11, 11, 1, 0)
}

// TestFirstAndNextAllowed goes on from every exchange, those that are not allowed too.
func TestFirstAndNextAllowed(t *testing.T) {
	for _, b := range append(smallBoards(), greaterBoards(5)...) {
		exchanges := exchangesOf(sideOf(b))
		behind := allowedAmong(b, exchanges)
		first, ok := impl.FirstAllowed(b)
		wantFirst(t, "FirstAllowed "+b, first, ok, behind)
		for _, list := range exchanges {
			if len(behind) > 0 && slices.Equal(behind[0], list) {
				behind = behind[1:]
			}
			next, ok := impl.NextAllowed(b, list)
			wantFirst(t, fmt.Sprint("NextAllowed ", b, " ", list), next, ok, behind)
		}
	}
}

// TestAllowedOneAfterTheOther goes from the first one on until there is none.
func TestAllowedOneAfterTheOther(t *testing.T) {
	exchanges := map[int][][]int{6: exchangesOf(6), 7: exchangesOf(7), 8: exchangesOf(8)}
	for _, b := range greaterBoards(6, 7, 8) {
		list, ok := impl.FirstAllowed(b)
		for k, want := range allowedAmong(b, exchanges[sideOf(b)]) {
			if !ok || !slices.Equal(list, want) {
				t.Fatal("allowed", k, "of", b, "is", list, ok, "and not", want)
			}
			list, ok = impl.NextAllowed(b, list)
		}
		wantNothing(t, "NextAllowed of the last "+b, list, ok)
	}
}

func TestFirstAllowedOfGreatest(t *testing.T) {
	first, ok := impl.FirstAllowed(boardWhere(8, nowhere))
	wantList(t, "FirstAllowed of no place", first, ok, inOrder(8)...)
	first, ok = impl.FirstAllowed(boardWhere(8, everywhere))
	wantNothing(t, "FirstAllowed of all places", first, ok)
	first, ok = impl.FirstAllowed(boardWhere(8, func(i, j int) bool { return i+j != 7 }))
	wantList(t, "FirstAllowed of one that is left", first, ok, backwards(8)...)
	next, ok := impl.NextAllowed(boardWhere(8, func(i, j int) bool { return i+j != 7 }), inOrder(8))
	wantList(t, "NextAllowed of one that is left", next, ok, backwards(8)...)
	first, ok = impl.FirstAllowed(boardWhere(8, func(i, j int) bool { return i == 7 }))
	wantNothing(t, "FirstAllowed with a last row of forbidden places", first, ok)
	next, ok = impl.NextAllowed(boardWhere(8, nowhere), backwards(8))
	wantNothing(t, "NextAllowed of the last exchange", next, ok)
}

// numbersIn returns the numbers in a set that is told by bits.
func numbersIn(set int) []int {
	var numbers []int
	for k := range 8 {
		if set>>k&1 == 1 {
			numbers = append(numbers, k)
		}
	}
	return numbers
}

// haveAll reports whether each forbidden place is in one of the rows or columns, which are told by bits.
func haveAll(b string, rows, columns int) bool {
	n := sideOf(b)
	for i := range n {
		for j := range n {
			if b[i*(n+1)+j] == '#' && rows>>i&1 == 0 && columns>>j&1 == 0 {
				return false
			}
		}
	}
	return true
}

// linesChosen finds the fewest lines among all choices of rows and columns.
func linesChosen(b string) (rows, columns []int) {
	n := sideOf(b)
	rows, columns = inOrder(n), inOrder(n)
	for r := range 1 << n {
		for c := range 1 << n {
			if !haveAll(b, r, c) {
				continue
			}
			i, j := numbersIn(r), numbersIn(c)
			fewer := len(i) + len(j) - len(rows) - len(columns)
			before := slices.Compare(i, rows) < 0 || slices.Equal(i, rows) && slices.Compare(j, columns) < 0
			if fewer < 0 || fewer == 0 && before {
				rows, columns = i, j
			}
		}
	}
	return rows, columns
}

func checkLines(t *testing.T, b string) {
	t.Helper()
	wantRows, wantColumns := linesChosen(b)
	rows, columns, ok := impl.FewestLines(b)
	wantList(t, "rows of FewestLines "+b, rows, ok, wantRows...)
	wantList(t, "columns of FewestLines "+b, columns, ok, wantColumns...)
	most, ok := impl.MostRooks(b)
	wantNumber(t, "MostRooks and lines of "+b, most, ok, len(wantRows)+len(wantColumns))
	put := rooksPut(b)
	if put[most] == 0 || most < sideOf(b) && put[most+1] > 0 {
		t.Error("MostRooks of", b, "is", most, "and the ways are", put)
	}
}

func TestFewestLinesAreAsManyAsMostRooks(t *testing.T) {
	for _, b := range append(smallBoards(), greaterBoards(5, 6)...) {
		checkLines(t, b)
	}
}

func TestLinesOfGreatestBoards(t *testing.T) {
	for k, b := range greaterBoards(8) {
		if k >= 5 {
			checkLines(t, b)
		}
	}
	rows, columns, ok := impl.FewestLines(boardWhere(8, everywhere))
	wantList(t, "rows of all places", rows, ok)
	wantList(t, "columns of all places", columns, ok, inOrder(8)...)
	rows, columns, ok = impl.FewestLines(boardWhere(8, nowhere))
	wantList(t, "rows of no place", rows, ok)
	wantList(t, "columns of no place", columns, ok)
	most, ok := impl.MostRooks(boardWhere(8, everywhere))
	wantNumber(t, "MostRooks of all places", most, ok, 8)
	most, ok = impl.MostRooks(boardWhere(8, nowhere))
	wantNumber(t, "MostRooks of no place", most, ok, 0)
}

// TestFirstLines has boards with several choices of as few lines, of which a longer list of rows may come first.
func TestFirstLines(t *testing.T) {
	for b, want := range map[string][2][]int{
		"#./..":               {nil, {0}},
		"#./.#":               {nil, {0, 1}},
		"##/#.":               {nil, {0, 1}},
		"###/#../...":         {{0}, {0}},
		"#../###/...":         {{0, 1}, nil},
		"#.../.#../####/....": {{0, 1, 2}, nil},
		"##../##../#.../####": {{3}, {0, 1}},
		"####/#.../####/#...": {{0, 2}, {0}},
	} {
		rows, columns, ok := impl.FewestLines(b)
		wantList(t, "rows of FewestLines "+b, rows, ok, want[0]...)
		wantList(t, "columns of FewestLines "+b, columns, ok, want[1]...)
	}
}
