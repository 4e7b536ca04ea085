package tests

import (
	"fmt"
	"slices"
	"testing"

	"loop.example/g01315/impl"
)

// longTables are tables of seven couples, the most that there may be.
var longTables = [][]int{
	inOrder(14), backwards(14), {0, 2, 1, 3, 4, 6, 5, 7, 8, 10, 9, 12, 11, 13}, {13, 11, 12, 9, 10, 8, 7, 5, 6, 4, 3, 1, 2, 0},
	{1, 2, 3, 4, 5, 6, 7, 8, 9, 10, 11, 12, 13, 0}, {5, 0, 13, 8, 7, 2, 9, 4, 12, 11, 3, 6, 1, 10}, {12, 0, 1, 3, 5, 7, 9, 11, 2, 4, 6, 8, 10, 13},
	{0, 3, 2, 5, 4, 7, 6, 9, 8, 11, 10, 13, 12, 1}, {6, 13, 4, 11, 2, 9, 0, 1, 8, 3, 10, 5, 12, 7},
}

// tablesOf returns all tables of so many couples in order.
func tablesOf(couples int) [][]int {
	return exchangesOf(2 * couples)
}

// tablesUpTo returns all tables of 1 up to so many couples.
func tablesUpTo(couples int) [][]int {
	var all [][]int
	for n := 1; n <= couples; n++ {
		all = append(all, tablesOf(n)...)
	}
	return all
}

// roundTables returns all tables of so many couples that begin with the guest 0, in order: turned ones are there once.
func roundTables(couples int) [][]int {
	all := exchangesOf(2*couples - 1)
	for k, others := range all {
		table := []int{0}
		for _, guest := range others {
			table = append(table, guest+1)
		}
		all[k] = table
	}
	return all
}

// manyTables are all tables of up to three couples, some of four, five and six, and those of seven.
func manyTables() [][]int {
	all := append(tablesUpTo(3), longTables...)
	for k, table := range tablesOf(4) {
		if k%101 == 0 {
			all = append(all, table)
		}
	}
	return append(all, inOrder(10), backwards(12), []int{0, 2, 1, 3, 4, 6, 5, 8, 7, 9}, []int{9, 3, 8, 0, 5, 2, 4, 1, 6, 7}, []int{10, 1, 8, 3, 6, 5, 4, 7, 2, 9, 0, 11})
}

// couplesIn returns the couples whose guests sit one place apart, or, around, at both ends.
func couplesIn(list []int, around bool) []int {
	var together []int
	for k := range len(list) / 2 {
		far := slices.Index(list, 2*k) - slices.Index(list, 2*k+1)
		if far < 0 {
			far = -far
		}
		if far == 1 || around && far == len(list)-1 {
			together = append(together, k)
		}
	}
	return together
}

// togetherAmong counts tables or rows by how many couples are together.
func togetherAmong(couples int, lists [][]int, around bool) []int {
	numbers := make([]int, couples+1)
	for _, list := range lists {
		numbers[len(couplesIn(list, around))]++
	}
	return numbers
}

// inTurnAmong returns those tables whose guests sit in turn.
func inTurnAmong(tables [][]int) [][]int {
	return kept(tables, isInTurn)
}

// isInTurn reports whether the guests at all places by twos from the first one are even or odd as that one is, and the others are not.
func isInTurn(list []int) bool {
	for i, guest := range list {
		if (guest+list[0]+i)%2 != 0 {
			return false
		}
	}
	return true
}

func TestTableLimits(t *testing.T) {
	if impl.MaxCouples != 7 || impl.MaxSeated != 4 {
		t.Error("limits", impl.MaxCouples, impl.MaxSeated)
	}
}

func TestTableExample(t *testing.T) {
	together, ok := impl.CouplesTogether([]int{0, 1, 2, 3})
	wantList(t, "CouplesTogether of both", together, ok, 0, 1)
	together, ok = impl.CouplesTogether([]int{0, 2, 1, 3})
	wantList(t, "CouplesTogether of none", together, ok)
	round, ok := impl.CountRound(2)
	wantNumber(t, "CountRound", round, ok, 6)
	for k, want := range []int{2, 0, 4} {
		count, ok := impl.CountTogether(2, k)
		wantNumber(t, fmt.Sprint("CountTogether 2 ", k), count, ok, want)
	}
	num, den, ok := impl.ChanceApart(3)
	wantPart(t, "ChanceApart", num, den, ok, 4, 15)
	first, ok := impl.FirstApart(3)
	wantList(t, "FirstApart", first, ok, 0, 2, 1, 4, 3, 5)
	turn, ok := impl.CountInTurn(3)
	wantNumber(t, "CountInTurn", turn, ok, 12)
	turn, ok = impl.CountTurnTogether(3, 0)
	wantNumber(t, "CountTurnTogether", turn, ok, 2)
	swaps, ok := impl.SwapsToPart([]int{0, 1, 2, 3})
	wantNumber(t, "SwapsToPart", swaps, ok, 1)
}

func TestIsTable(t *testing.T) {
	for _, list := range manyTables() {
		if !impl.IsTable(list) {
			t.Error("no table", list)
		}
	}
	for n := 1; n <= 16; n++ {
		want := n%2 == 0 && n <= 14
		if impl.IsTable(inOrder(n)) != want || impl.IsTable(backwards(n)) != want {
			t.Error("IsTable of guests", n, "is not", want)
		}
	}
	for _, list := range noTables() {
		if impl.IsTable(list) {
			t.Error("a table", list)
		}
	}
}

// TestIsTableOfShortLists holds every short list of a few numbers against the tables that there are.
func TestIsTableOfShortLists(t *testing.T) {
	known := map[string]bool{}
	for _, list := range tablesUpTo(2) {
		known[fmt.Sprint(list)] = true
	}
	lists := [][]int{nil}
	for range 5 {
		var longer [][]int
		for _, list := range lists {
			for number := -1; number <= 5; number++ {
				longer = append(longer, append(slices.Clone(list), number))
			}
		}
		lists = longer
		for _, list := range lists {
			if impl.IsTable(list) != known[fmt.Sprint(list)] {
				t.Errorf("IsTable of %v: want %v", list, known[fmt.Sprint(list)])
			}
		}
	}
}

func TestOneCouple(t *testing.T) {
	for _, list := range [][]int{{0, 1}, {1, 0}} {
		what := fmt.Sprint(" of ", list)
		together, ok := impl.CouplesTogether(list)
		wantList(t, "CouplesTogether"+what, together, ok, 0)
		together, ok = impl.CouplesInRow(list)
		wantList(t, "CouplesInRow"+what, together, ok, 0)
		is, ok := impl.IsInTurn(list)
		wantBool(t, "IsInTurn"+what, is, ok, true)
		first, ok := impl.FirstTable(list)
		wantList(t, "FirstTable"+what, first, ok, 0, 1)
		for guest := range 2 {
			checkNeighbours(t, list, guest, 1-guest, 1-guest)
		}
		swaps, ok := impl.SwapsToPart(list)
		wantNothing(t, "SwapsToPart"+what, swaps, ok)
		next, ok := impl.NextApart(list)
		wantNothing(t, "NextApart"+what, next, ok)
	}
	first, ok := impl.FirstApart(1)
	wantNothing(t, "FirstApart 1", first, ok)
	round, ok := impl.CountRound(1)
	wantNumber(t, "CountRound 1", round, ok, 1)
	turn, ok := impl.CountInTurn(1)
	wantNumber(t, "CountInTurn 1", turn, ok, 1)
	num, den, ok := impl.ChanceApart(1)
	wantPart(t, "ChanceApart 1", num, den, ok, 0, 1)
	for k, want := range []int{0, 1} {
		checkCounts(t, 1, k, want, 2*want, want)
	}
}

func checkNeighbours(t *testing.T, list []int, guest, wantBefore, wantBehind int) {
	t.Helper()
	before, behind, ok := impl.NeighboursOf(list, guest)
	if !ok || before != wantBefore || behind != wantBehind {
		t.Errorf("NeighboursOf %v %d: got %d %d %v, want %d %d true", list, guest, before, behind, ok, wantBefore, wantBehind)
	}
}

// checkCounts holds the three counts by couples together against what they should be.
func checkCounts(t *testing.T, couples, together, wantRound, wantRow, wantTurn int) {
	t.Helper()
	what := fmt.Sprint(" ", couples, " ", together)
	round, ok := impl.CountTogether(couples, together)
	wantNumber(t, "CountTogether"+what, round, ok, wantRound)
	row, ok := impl.CountInRow(couples, together)
	wantNumber(t, "CountInRow"+what, row, ok, wantRow)
	turn, ok := impl.CountTurnTogether(couples, together)
	wantNumber(t, "CountTurnTogether"+what, turn, ok, wantTurn)
}

func TestNeighbours(t *testing.T) {
	for _, list := range manyTables() {
		n := len(list)
		for i, guest := range list {
			checkNeighbours(t, list, guest, list[(i+n-1)%n], list[(i+1)%n])
		}
	}
	checkNeighbours(t, []int{0, 2, 1, 4, 3, 5}, 0, 5, 2)
	checkNeighbours(t, []int{0, 2, 1, 4, 3, 5}, 5, 3, 0)
	checkNeighbours(t, []int{0, 2, 1, 4, 3, 5}, 4, 1, 3)
	checkNeighbours(t, inOrder(14), 13, 12, 0)
}

// TestCouplesAreTogetherAsNeighboursTell requires that a couple is together just if each guest of it has the other one beside.
func TestCouplesAreTogetherAsNeighboursTell(t *testing.T) {
	for _, list := range manyTables() {
		together, ok := impl.CouplesTogether(list)
		wantList(t, fmt.Sprint("CouplesTogether ", list), together, ok, couplesIn(list, true)...)
		for guest := range list {
			before, behind, ok := impl.NeighboursOf(list, guest)
			other := guest + 1 - 2*(guest%2)
			wantBool(t, fmt.Sprint("neighbours of ", guest, " in ", list), before == other || behind == other, ok, slices.Contains(together, guest/2))
		}
	}
	together, ok := impl.CouplesTogether([]int{5, 2, 0, 1, 3, 4})
	wantList(t, "CouplesTogether at both ends", together, ok, 0, 2)
	together, ok = impl.CouplesTogether(inOrder(14))
	wantList(t, "CouplesTogether of seven", together, ok, 0, 1, 2, 3, 4, 5, 6)
	together, ok = impl.CouplesTogether([]int{1, 2, 3, 4, 5, 6, 7, 8, 9, 10, 11, 12, 13, 0})
	wantList(t, "CouplesTogether of seven, turned", together, ok, 0, 1, 2, 3, 4, 5, 6)
	together, ok = impl.CouplesTogether([]int{3, 4, 5, 2, 0, 1})
	wantList(t, "CouplesTogether, increasing", together, ok, 0, 2)
}

func TestCouplesInRow(t *testing.T) {
	for _, list := range manyTables() {
		together, ok := impl.CouplesInRow(list)
		wantList(t, fmt.Sprint("CouplesInRow ", list), together, ok, couplesIn(list, false)...)
	}
	together, ok := impl.CouplesInRow([]int{5, 2, 1, 0, 3, 4})
	wantList(t, "CouplesInRow with others at both ends", together, ok, 0)
	together, ok = impl.CouplesInRow([]int{1, 2, 3, 4, 5, 6, 7, 8, 9, 10, 11, 12, 13, 0})
	wantList(t, "CouplesInRow of seven", together, ok, 1, 2, 3, 4, 5, 6)
	together, ok = impl.CouplesInRow([]int{5, 4, 3, 2, 1, 0})
	wantList(t, "CouplesInRow, increasing", together, ok, 0, 1, 2)
	together, ok = impl.CouplesInRow([]int{1, 2, 3, 0})
	wantList(t, "CouplesInRow of one behind the first", together, ok, 1)
}

// TestCountsOfFewCouples holds the counts against all tables and all rows of up to four couples.
func TestCountsOfFewCouples(t *testing.T) {
	for n := 1; n <= 4; n++ {
		tables := roundTables(n)
		round := togetherAmong(n, tables, true)
		row := togetherAmong(n, tablesOf(n), false)
		turn := togetherAmong(n, inTurnAmong(tables), true)
		for k := range round {
			checkCounts(t, n, k, round[k], row[k], turn[k])
		}
	}
}

// TestCountsOfFiveCouples holds the counts of tables against all of these.
func TestCountsOfFiveCouples(t *testing.T) {
	tables := roundTables(5)
	turn := togetherAmong(5, inTurnAmong(tables), true)
	for k, want := range togetherAmong(5, tables, true) {
		count, ok := impl.CountTogether(5, k)
		wantNumber(t, fmt.Sprint("CountTogether 5 ", k), count, ok, want)
		count, ok = impl.CountTurnTogether(5, k)
		wantNumber(t, fmt.Sprint("CountTurnTogether 5 ", k), count, ok, turn[k])
	}
}

// TestCountsAddUpToAll adds the counts by couples together, and holds the sums against the counts of all.
func TestCountsAddUpToAll(t *testing.T) {
	for n := 1; n <= 7; n++ {
		var sums [3]int
		for k := range n + 1 {
			for which, count := range []func(int, int) (int, bool){impl.CountTogether, impl.CountInRow, impl.CountTurnTogether} {
				number, ok := count(n, k)
				sums[which] += number
				if !ok || number < 0 {
					t.Error("count", which, "of", n, k, "is", number, ok)
				}
			}
		}
		round, ok := impl.CountRound(n)
		wantNumber(t, fmt.Sprint("CountRound ", n), round, ok, product(2*n-1))
		wantNumber(t, fmt.Sprint("all by CountTogether ", n), sums[0], true, round)
		wantNumber(t, fmt.Sprint("all by CountInRow ", n), sums[1], true, product(2*n))
		turn, ok := impl.CountInTurn(n)
		wantNumber(t, fmt.Sprint("CountInTurn ", n), turn, ok, product(n-1)*product(n))
		wantNumber(t, fmt.Sprint("all by CountTurnTogether ", n), sums[2], true, turn)
	}
}

// TestCountsToTheLimit has numbers that are known otherwise.
func TestCountsToTheLimit(t *testing.T) {
	round := []int{0, 2, 32, 1488, 112512, 12771840, 2036229120}
	row := []int{0, 8, 240, 13824, 1263360, 168422400, 30865121280}
	turn := []int{0, 0, 2, 12, 312, 9600, 416880}
	for k := range 7 {
		checkCounts(t, k+1, 0, round[k], row[k], turn[k])
	}
	// All couples together are as many guests in each of two ways: around, and in a row. In turn all of them sit the same way.
	for n := 2; n <= 7; n++ {
		checkCounts(t, n, n, product(n-1)<<n, product(n)<<n, 2*product(n-1))
	}
	checkCounts(t, 7, 3, 432230400, 5148057600, 715680)
	all, ok := impl.CountRound(7)
	wantNumber(t, "CountRound 7", all, ok, 6227020800)
	all, ok = impl.CountInTurn(7)
	wantNumber(t, "CountInTurn 7", all, ok, 3628800)
}

// TestChancesAgainstCounts requires the part of all tables that counts tell, in lowest terms.
func TestChancesAgainstCounts(t *testing.T) {
	for n := 1; n <= 7; n++ {
		apart, _ := impl.CountTogether(n, 0)
		all, _ := impl.CountRound(n)
		num, den, ok := impl.ChanceApart(n)
		if !ok || den < 1 || num*(all/den) != apart || all%den != 0 {
			t.Error("ChanceApart", n, "is", num, den, ok)
		}
		for common := 2; common <= den; common++ {
			if num%common == 0 && den%common == 0 {
				t.Error("ChanceApart", n, "not in lowest terms", num, den)
			}
		}
	}
	num, den, ok := impl.ChanceApart(2)
	wantPart(t, "ChanceApart 2", num, den, ok, 1, 3)
	num, den, ok = impl.ChanceApart(7)
	wantPart(t, "ChanceApart 7", num, den, ok, 44189, 135135)
}

func TestIsInTurn(t *testing.T) {
	for _, list := range manyTables() {
		is, ok := impl.IsInTurn(list)
		wantBool(t, fmt.Sprint("IsInTurn ", list), is, ok, isInTurn(list))
	}
	for text, list := range map[string][]int{"first": {2, 0, 1, 3, 4, 5}, "last": {0, 1, 2, 3, 5, 4}, "both": {0, 1, 3, 2}, "halves": {0, 2, 4, 1, 3, 5}} {
		is, ok := impl.IsInTurn(list)
		wantBool(t, "IsInTurn with guests side by side, "+text, is, ok, false)
	}
	is, ok := impl.IsInTurn([]int{5, 0, 13, 8, 7, 2, 9, 4, 3, 12, 11, 6, 1, 10})
	wantBool(t, "IsInTurn of seven couples", is, ok, true)
	is, ok = impl.IsInTurn([]int{3, 0, 1, 2})
	wantBool(t, "IsInTurn with an odd number first", is, ok, true)
}

func TestCountInTurnAgainstTables(t *testing.T) {
	for n := 1; n <= 5; n++ {
		count, ok := impl.CountInTurn(n)
		wantNumber(t, fmt.Sprint("CountInTurn ", n), count, ok, len(inTurnAmong(roundTables(n))))
	}
}
