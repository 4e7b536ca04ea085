package tests

import (
	"fmt"
	"slices"
	"testing"

	"loop.example/g01315/impl"
)

// apartAmong returns those tables with no couple together.
func apartAmong(tables [][]int) [][]int {
	return kept(tables, func(list []int) bool { return len(couplesIn(list, true)) == 0 })
}

// TestFirstAndNextApart goes on from every table that begins with the guest 0, those with couples together too.
func TestFirstAndNextApart(t *testing.T) {
	for n := 1; n <= 4; n++ {
		tables := roundTables(n)
		behind := apartAmong(tables)
		first, ok := impl.FirstApart(n)
		wantFirst(t, fmt.Sprint("FirstApart ", n), first, ok, behind)
		for _, list := range tables {
			if len(behind) > 0 && slices.Equal(behind[0], list) {
				behind = behind[1:]
			}
			next, ok := impl.NextApart(list)
			wantFirst(t, fmt.Sprint("NextApart ", list), next, ok, behind)
		}
	}
}

// TestApartOneAfterTheOther goes from the first one on until there is none, as many as are counted.
func TestApartOneAfterTheOther(t *testing.T) {
	for n := 1; n <= 5; n++ {
		tables := apartAmong(roundTables(n))
		count, ok := impl.CountTogether(n, 0)
		wantNumber(t, fmt.Sprint("CountTogether ", n, " 0"), count, ok, len(tables))
		list, ok := impl.FirstApart(n)
		for k, want := range tables {
			if !ok || !slices.Equal(list, want) {
				t.Fatal("table", k, "of", n, "couples is", list, ok, "and not", want)
			}
			list, ok = impl.NextApart(list)
		}
		wantNothing(t, fmt.Sprint("NextApart of the last of ", n), list, ok)
	}
}

// apartBehind tries all lists behind a table one by one, up to the first one with no couple together.
// It returns none once a list begins with the guest 0 and the last couple, as all others behind it do, or with another guest.
func apartBehind(list []int) [][]int {
	last := len(list) - 1
	next := slices.Clone(list)
	for nextList(next) && next[0] == 0 && (next[1] != last || next[2] != last-1) {
		if len(couplesIn(next, true)) == 0 {
			return [][]int{next}
		}
	}
	return nil
}

// TestApartOfManyCouples walks some way from the first one on, among more tables than can be told.
func TestApartOfManyCouples(t *testing.T) {
	for n := 6; n <= 7; n++ {
		list, ok := impl.FirstApart(n)
		for range 200 {
			want := apartBehind(list)
			list, ok = impl.NextApart(list)
			wantFirst(t, fmt.Sprint("NextApart of couples ", n), list, ok, want)
		}
	}
	first, ok := impl.FirstApart(6)
	wantList(t, "FirstApart 6", first, ok, 0, 2, 1, 3, 4, 6, 5, 7, 8, 10, 9, 11)
	first, ok = impl.FirstApart(7)
	wantList(t, "FirstApart 7", first, ok, 0, 2, 1, 3, 4, 6, 5, 7, 8, 10, 9, 12, 11, 13)
}

// TestNextApartOfSeven goes on from tables of seven couples, with couples together and without, up to the last ones.
func TestNextApartOfSeven(t *testing.T) {
	for _, list := range [][]int{
		{0, 13, 11, 12, 10, 8, 9, 7, 6, 4, 5, 2, 1, 3}, {0, 13, 11, 12, 10, 8, 7, 9, 6, 5, 4, 3, 2, 1}, {0, 12, 13, 11, 10, 9, 8, 7, 6, 5, 4, 3, 2, 1},
		{0, 7, 9, 11, 13, 12, 10, 8, 6, 5, 4, 3, 2, 1}, {0, 7, 9, 11, 13, 10, 12, 8, 6, 5, 4, 3, 2, 1}, {0, 3, 13, 11, 12, 10, 9, 7, 8, 6, 5, 4, 2, 1},
		{0, 13, 11, 12, 10, 9, 7, 8, 6, 5, 3, 4, 2, 1}, {0, 13, 11, 12, 10, 9, 7, 8, 6, 5, 3, 4, 1, 2}, {0, 13, 11, 12, 10, 9, 7, 8, 6, 4, 5, 3, 2, 1},
		{0, 13, 12, 11, 10, 9, 8, 7, 6, 5, 4, 3, 2, 1},
	} {
		want := apartBehind(list)
		for range 3 {
			next, ok := impl.NextApart(list)
			wantFirst(t, fmt.Sprint("NextApart ", list), next, ok, want)
			if !ok {
				break
			}
			list, want = next, apartBehind(next)
		}
	}
}

// nextList makes of a list the lexicographically next one of the same numbers. It returns false if there is none.
func nextList(list []int) bool {
	i := len(list) - 2
	for i >= 0 && list[i] > list[i+1] {
		i--
	}
	if i < 0 {
		return false
	}
	j := len(list) - 1
	for list[j] < list[i] {
		j--
	}
	list[i], list[j] = list[j], list[i]
	slices.Reverse(list[i+1:])
	return true
}

func TestNextApartOfChosen(t *testing.T) {
	for _, c := range []struct{ list, want []int }{
		{[]int{0, 1, 2, 3}, []int{0, 2, 1, 3}},
		{[]int{0, 2, 1, 3}, []int{0, 3, 1, 2}},
		{[]int{0, 3, 1, 2}, nil},
		{[]int{0, 3, 2, 1}, nil},
		{[]int{0, 1, 2, 3, 4, 5}, []int{0, 2, 1, 4, 3, 5}},
		{[]int{0, 5, 4, 3, 2, 1}, nil},
		{[]int{0, 5, 3, 4, 1, 2}, nil},
		{inOrder(14), []int{0, 2, 1, 3, 4, 6, 5, 7, 8, 10, 9, 12, 11, 13}},
		{[]int{0, 12, 13, 11, 10, 9, 8, 7, 6, 5, 4, 3, 2, 1}, []int{0, 13, 1, 2, 4, 3, 5, 6, 8, 7, 9, 10, 12, 11}},
		{[]int{0, 13, 11, 12, 10, 9, 7, 8, 6, 5, 3, 4, 1, 2}, nil},
		{[]int{0, 13, 12, 11, 10, 9, 8, 7, 6, 5, 4, 3, 2, 1}, nil},
		{[]int{0, 13, 12, 1, 2, 4, 3, 5, 6, 8, 7, 9, 10, 11}, nil},
	} {
		next, ok := impl.NextApart(c.list)
		if c.want == nil {
			wantNothing(t, fmt.Sprint("NextApart ", c.list), next, ok)
		} else {
			wantList(t, fmt.Sprint("NextApart ", c.list), next, ok, c.want...)
		}
	}
}

func TestNextApartFailsForOtherBeginnings(t *testing.T) {
	for _, list := range manyTables() {
		if list[0] != 0 {
			next, ok := impl.NextApart(list)
			wantNothing(t, fmt.Sprint("NextApart ", list), next, ok)
		}
	}
	next, ok := impl.NextApart([]int{1, 3, 0, 2})
	wantNothing(t, "NextApart with all apart behind the guest 1", next, ok)
}

// turnedBy returns a table told from a place on, guest by guest.
func turnedBy(list []int, by int) []int {
	turned := make([]int, len(list))
	for i := range list {
		turned[i] = list[(i+by)%len(list)]
	}
	return turned
}

func reversed(list []int) []int {
	back := slices.Clone(list)
	slices.Reverse(back)
	return back
}

func TestTurnedAndMirroredTables(t *testing.T) {
	for _, list := range manyTables() {
		for by := range list {
			turned, ok := impl.TurnTable(list, by)
			wantList(t, fmt.Sprint("TurnTable ", list, " ", by), turned, ok, turnedBy(list, by)...)
			together, _ := impl.CouplesTogether(list)
			again, ok := impl.CouplesTogether(turned)
			wantList(t, fmt.Sprint("CouplesTogether of a turned table ", turned), again, ok, together...)
		}
		mirrored, ok := impl.MirrorTable(list)
		wantList(t, fmt.Sprint("MirrorTable ", list), mirrored, ok, reversed(list)...)
	}
	turned, ok := impl.TurnTable([]int{3, 1, 0, 2}, 1)
	wantList(t, "TurnTable", turned, ok, 1, 0, 2, 3)
	mirrored, ok := impl.MirrorTable([]int{3, 1, 0, 2})
	wantList(t, "MirrorTable", mirrored, ok, 2, 0, 1, 3)
}

// TestFirstTable holds the first table against all turned and mirrored ones, all of which have the same first one.
func TestFirstTable(t *testing.T) {
	for _, list := range manyTables() {
		want := list
		for by := range list {
			for _, other := range [][]int{turnedBy(list, by), turnedBy(reversed(list), by)} {
				if slices.Compare(other, want) < 0 {
					want = other
				}
			}
		}
		first, ok := impl.FirstTable(list)
		wantList(t, fmt.Sprint("FirstTable ", list), first, ok, want...)
	}
	first, ok := impl.FirstTable([]int{3, 1, 0, 2})
	wantList(t, "FirstTable told backwards", first, ok, 0, 1, 3, 2)
	first, ok = impl.FirstTable([]int{3, 2, 0, 1})
	wantList(t, "FirstTable turned", first, ok, 0, 1, 3, 2)
	first, ok = impl.FirstTable([]int{6, 13, 4, 11, 2, 9, 0, 1, 8, 3, 10, 5, 12, 7})
	wantList(t, "FirstTable of seven couples", first, ok, 0, 1, 8, 3, 10, 5, 12, 7, 6, 13, 4, 11, 2, 9)
	first, ok = impl.FirstTable(backwards(14))
	wantList(t, "FirstTable of seven couples told backwards", first, ok, inOrder(14)...)
}

// swapsTried tells for all tables of so many couples the least number of swaps that part all couples:
// from those with all apart on, one swap further each time.
func swapsTried(couples int) map[string]int {
	tables := apartAmong(tablesOf(couples))
	swaps := map[string]int{}
	for _, list := range tables {
		swaps[fmt.Sprint(list)] = 0
	}
	for far := 1; len(tables) > 0; far++ {
		var further [][]int
		for _, list := range tables {
			for i := range list {
				for j := range i {
					other := slices.Clone(list)
					other[i], other[j] = other[j], other[i]
					if _, known := swaps[fmt.Sprint(other)]; !known {
						swaps[fmt.Sprint(other)] = far
						further = append(further, other)
					}
				}
			}
		}
		tables = further
	}
	return swaps
}

func TestSwapsAgainstAllSwaps(t *testing.T) {
	for n := 2; n <= 3; n++ {
		want := swapsTried(n)
		for _, list := range tablesOf(n) {
			swaps, ok := impl.SwapsToPart(list)
			wantNumber(t, fmt.Sprint("SwapsToPart ", list), swaps, ok, want[fmt.Sprint(list)])
		}
	}
}

// TestSwapsOfMostCouples has as many couples as swaps are told for.
func TestSwapsOfMostCouples(t *testing.T) {
	want := swapsTried(4)
	for _, list := range tablesOf(4) {
		swaps, ok := impl.SwapsToPart(list)
		wantNumber(t, fmt.Sprint("SwapsToPart ", list), swaps, ok, want[fmt.Sprint(list)])
	}
	for _, c := range []struct {
		list []int
		want int
	}{
		{[]int{0, 2, 1, 3, 4, 6, 5, 7}, 0},
		{[]int{0, 2, 4, 1, 6, 3, 5, 7}, 0},
		{[]int{0, 2, 4, 6, 7, 5, 3, 1}, 1},
		{[]int{0, 1, 2, 4, 3, 6, 5, 7}, 1},
		{inOrder(8), 2},
		{backwards(8), 2},
		{[]int{1, 2, 3, 4, 5, 6, 7, 0}, 2},
	} {
		swaps, ok := impl.SwapsToPart(c.list)
		wantNumber(t, fmt.Sprint("SwapsToPart ", c.list), swaps, ok, c.want)
	}
}

func TestSwapsAreToldForFewCouples(t *testing.T) {
	for n := 5; n <= 7; n++ {
		for _, list := range [][]int{inOrder(2 * n), backwards(2 * n)} {
			swaps, ok := impl.SwapsToPart(list)
			wantNothing(t, fmt.Sprint("SwapsToPart ", list), swaps, ok)
		}
		apart, _ := impl.FirstApart(n)
		swaps, ok := impl.SwapsToPart(apart)
		wantNothing(t, fmt.Sprint("SwapsToPart of all apart ", n), swaps, ok)
	}
}
