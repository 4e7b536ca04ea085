package tests

import (
	"fmt"
	"slices"
	"testing"

	"loop.example/g01315/impl"
)

func isGivingOf(families, list []int) bool {
	for i, giver := range list {
		if families[i] == families[giver] {
			return false
		}
	}
	return true
}

// givingsOf returns those exchanges that are givings.
func givingsOf(families []int, exchanges [][]int) [][]int {
	var all [][]int
	for _, list := range exchanges {
		if isGivingOf(families, list) {
			all = append(all, list)
		}
	}
	return all
}

// isOneChain follows the gifts from guest 0 until they come back.
func isOneChain(list []int) bool {
	steps := 1
	for g := list[0]; g != 0; g = list[g] {
		steps++
	}
	return steps == len(list)
}

func isMutual(list []int) bool {
	for i, giver := range list {
		if giver == i || list[giver] != i {
			return false
		}
	}
	return true
}

func kept(lists [][]int, keep func([]int) bool) [][]int {
	var all [][]int
	for _, list := range lists {
		if keep(list) {
			all = append(all, list)
		}
	}
	return all
}

// wantFirst requires the first one of some lists, and failure if there is none.
func wantFirst(t *testing.T, what string, got []int, ok bool, lists [][]int) {
	t.Helper()
	if len(lists) == 0 {
		wantNothing(t, what, got, ok)
		return
	}
	wantList(t, what, got, ok, lists[0]...)
}

func TestIsGiving(t *testing.T) {
	for _, families := range familiesUpTo(5) {
		for _, list := range exchangesOf(len(families)) {
			is, ok := impl.IsGiving(families, list)
			wantBool(t, fmt.Sprint("IsGiving ", families, list), is, ok, isGivingOf(families, list))
		}
	}
	is, ok := impl.IsGiving([]int{0, 1, 2, 3, 4, 5, 6, 7, 0}, []int{1, 2, 3, 4, 5, 6, 7, 8, 0})
	wantBool(t, "IsGiving of nine with one gift in a family", is, ok, false)
	is, ok = impl.IsGiving([]int{0, 1, 2, 3, 4, 5, 6, 7, 8}, []int{1, 2, 3, 4, 5, 6, 7, 8, 0})
	wantBool(t, "IsGiving of nine", is, ok, true)
}

// TestGivingsOfAllFamilies holds counts, first and ranked givings against those found among all exchanges.
func TestGivingsOfAllFamilies(t *testing.T) {
	for n := 1; n <= 6; n++ {
		exchanges := exchangesOf(n)
		for _, families := range familiesOf(n) {
			checkGivings(t, families, exchanges)
			checkRanks(t, families, givingsOf(families, exchanges))
		}
	}
}

func checkGivings(t *testing.T, families []int, exchanges [][]int) {
	t.Helper()
	what := fmt.Sprint(" of ", families)
	all := givingsOf(families, exchanges)
	rings, mutual := kept(all, isOneChain), kept(all, isMutual)
	can, ok := impl.CanGive(families)
	wantBool(t, "CanGive"+what, can, ok, len(all) > 0)
	wantBool(t, "no family has more than half"+what, can, ok, 2*slices.Max(sizesIn(families)) <= len(families))
	count, ok := impl.CountGivings(families)
	wantNumber(t, "CountGivings"+what, count, ok, len(all))
	count, ok = impl.CountRings(families)
	wantNumber(t, "CountRings"+what, count, ok, len(rings))
	count, ok = impl.CountMutual(families)
	wantNumber(t, "CountMutual"+what, count, ok, len(mutual))
	first, ok := impl.FirstGiving(families)
	wantFirst(t, "FirstGiving"+what, first, ok, all)
	ring, ok := impl.FirstRing(families)
	wantFirst(t, "FirstRing"+what, ring, ok, rings)
	none, ok := impl.GivingOfRank(families, len(all))
	wantNothing(t, "GivingOfRank behind all"+what, none, ok)
}

func checkRanks(t *testing.T, families []int, givings [][]int) {
	t.Helper()
	for k, list := range givings {
		rank, ok := impl.RankOfGiving(families, list)
		wantNumber(t, fmt.Sprint("RankOfGiving ", families, list), rank, ok, k)
		giving, ok := impl.GivingOfRank(families, k)
		wantList(t, fmt.Sprint("GivingOfRank ", families, k), giving, ok, list...)
	}
}

// TestNextGiving goes on from every exchange, those that are no givings too.
func TestNextGiving(t *testing.T) {
	for n := 1; n <= 5; n++ {
		for _, families := range familiesOf(n) {
			behind := givingsOf(families, exchangesOf(n))
			for _, list := range exchangesOf(n) {
				if len(behind) > 0 && slices.Equal(behind[0], list) {
					behind = behind[1:]
				}
				next, ok := impl.NextGiving(families, list)
				wantFirst(t, fmt.Sprint("NextGiving ", families, list), next, ok, behind)
			}
		}
	}
}

// TestGivingsOneAfterTheOther goes from the first giving on until there is none.
func TestGivingsOneAfterTheOther(t *testing.T) {
	for _, families := range append(familiesUpTo(5), []int{0, 1, 0, 2, 1, 2}, []int{0, 0, 0, 1, 1, 1, 2}, []int{0, 0, 0, 0, 1, 1, 1, 1}, nineGivers[2], nineGivers[7]) {
		count, _ := impl.CountGivings(families)
		rank := 0
		giving, ok := impl.FirstGiving(families)
		for ok {
			if rank%101 == 0 || rank+1 == count {
				again, fine := impl.RankOfGiving(families, giving)
				wantNumber(t, fmt.Sprint("RankOfGiving ", families, giving), again, fine, rank)
				ranked, fine := impl.GivingOfRank(families, rank)
				wantList(t, fmt.Sprint("GivingOfRank ", families, rank), ranked, fine, giving...)
			}
			before := giving
			giving, ok = impl.NextGiving(families, giving)
			if ok && (slices.Compare(before, giving) >= 0 || !isGivingOf(families, giving)) {
				t.Error("NextGiving", families, before, "is", giving)
			}
			rank++
		}
		wantNothing(t, fmt.Sprint("NextGiving of the last ", families), giving, ok)
		wantNumber(t, fmt.Sprint("givings one after the other ", families), rank, true, count)
	}
}

// TestGivingsOfNine has as many guests as there may be.
func TestGivingsOfNine(t *testing.T) {
	exchanges := exchangesOf(9)
	for _, families := range nineGivers {
		checkGivings(t, families, exchanges)
		givings := givingsOf(families, exchanges)
		if len(givings) == 0 {
			continue
		}
		last := len(givings) - 1
		for _, rank := range []int{0, 1, last / 3, last / 2, last - 1, last} {
			giving, ok := impl.GivingOfRank(families, rank)
			wantList(t, fmt.Sprint("GivingOfRank ", families, rank), giving, ok, givings[rank]...)
			again, ok := impl.RankOfGiving(families, givings[rank])
			wantNumber(t, fmt.Sprint("RankOfGiving ", families, givings[rank]), again, ok, rank)
			next, ok := impl.NextGiving(families, givings[rank])
			wantFirst(t, fmt.Sprint("NextGiving ", families, givings[rank]), next, ok, givings[rank+1:])
		}
		for k := 0; k < len(exchanges); k += 997 {
			next, ok := impl.NextGiving(families, exchanges[k])
			wantFirst(t, fmt.Sprint("NextGiving ", families, exchanges[k]), next, ok, givingBehind(givings, exchanges[k]))
		}
	}
}

// givingBehind returns the first one of the givings that comes behind an exchange, or none.
func givingBehind(givings [][]int, list []int) [][]int {
	at, found := slices.BinarySearchFunc(givings, list, slices.Compare[[]int])
	if found {
		at++
	}
	return givings[at:]
}

// TestKnownCounts has counts that are known otherwise: nobody getting the own one, one ring of all, and pairs.
func TestKnownCounts(t *testing.T) {
	ring, pairs := 1, []int{1, 0, 1, 0, 3, 0, 15, 0, 105, 0}
	for n := 1; n <= 9; n++ {
		what := fmt.Sprint(" of families of one guest each ", n)
		count, ok := impl.CountGivings(inOrder(n))
		wantNumber(t, "CountGivings"+what, count, ok, nones[n])
		if n > 1 {
			ring *= n - 1
			count, ok = impl.CountRings(inOrder(n))
			wantNumber(t, "CountRings"+what, count, ok, ring)
		}
		count, ok = impl.CountMutual(inOrder(n))
		wantNumber(t, "CountMutual"+what, count, ok, pairs[n])
		count, ok = impl.CountGivings(make([]int, n))
		wantNumber(t, fmt.Sprint("CountGivings of one family of ", n), count, ok, 0)
	}
	halves := []int{0, 0, 0, 0, 1, 1, 1, 1}
	count, ok := impl.CountGivings(halves)
	wantNumber(t, "CountGivings of halves", count, ok, 24*24)
	count, ok = impl.CountRings(halves)
	wantNumber(t, "CountRings of halves", count, ok, 24*6)
	count, ok = impl.CountMutual(halves)
	wantNumber(t, "CountMutual of halves", count, ok, 24)
}

func TestFirstRings(t *testing.T) {
	ring, ok := impl.FirstRing([]int{0, 0, 1, 1})
	wantList(t, "FirstRing of 0011", ring, ok, 2, 3, 1, 0)
	ring, ok = impl.FirstRing([]int{0, 1})
	wantList(t, "FirstRing of two", ring, ok, 1, 0)
	ring, ok = impl.FirstRing(inOrder(9))
	wantList(t, "FirstRing of nine", ring, ok, 1, 2, 3, 4, 5, 6, 7, 8, 0)
	first, ok := impl.FirstGiving(inOrder(9))
	wantList(t, "FirstGiving of nine", first, ok, 1, 0, 3, 2, 5, 4, 7, 8, 6)
}

func TestGiftsBetween(t *testing.T) {
	for n := 1; n <= 5; n++ {
		exchanges := exchangesOf(n)
		for _, families := range familiesOf(n) {
			for _, list := range exchanges {
				gifts, ok := impl.GiftsBetween(families, list)
				what := fmt.Sprint("GiftsBetween ", families, list)
				if isGivingOf(families, list) {
					wantLists(t, what, gifts, ok, giftsCounted(families, list)...)
				} else {
					wantNothing(t, what, gifts, ok)
				}
			}
		}
	}
	gifts, ok := impl.GiftsBetween([]int{0, 0, 1, 2, 1}, []int{2, 3, 1, 4, 0})
	wantLists(t, "GiftsBetween", gifts, ok, []int{0, 1, 1}, []int{2, 0, 0}, []int{0, 1, 0})
	gifts, ok = impl.GiftsBetween([]int{0, 0, 0, 0, 1, 1, 1, 1, 2}, []int{8, 4, 5, 6, 0, 1, 2, 3, 7})
	wantLists(t, "GiftsBetween of nine", gifts, ok, []int{0, 3, 1}, []int{4, 0, 0}, []int{0, 1, 0})
}

func giftsCounted(families, list []int) [][]int {
	n := slices.Max(families) + 1
	gifts := make([][]int, n)
	for f := range n {
		for g := range n {
			count := 0
			for i, giver := range list {
				if families[i] == f && families[giver] == g {
					count++
				}
			}
			gifts[f] = append(gifts[f], count)
		}
	}
	return gifts
}
