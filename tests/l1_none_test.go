package tests

import (
	"fmt"
	"slices"
	"testing"

	"loop.example/g01315/impl"
)

func TestCountNone(t *testing.T) {
	for n := 1; n <= 12; n++ {
		count, ok := impl.CountNone(n)
		wantNumber(t, fmt.Sprint("CountNone ", n), count, ok, nones[n])
	}
	for n := 1; n <= 7; n++ {
		count, ok := impl.CountNone(n)
		wantNumber(t, fmt.Sprint("CountNone by a list ", n), count, ok, len(nonesAmong(exchangesOf(n))))
	}
}

func TestCountOwn(t *testing.T) {
	for n := 1; n <= 7; n++ {
		counts := make([]int, n+1)
		for _, list := range exchangesOf(n) {
			counts[len(ownIn(list))]++
		}
		for own, want := range counts {
			count, ok := impl.CountOwn(n, own)
			wantNumber(t, fmt.Sprint("CountOwn ", n, own), count, ok, want)
		}
	}
}

func TestCountOwnToTheLimit(t *testing.T) {
	for n := 1; n <= 12; n++ {
		sum := 0
		for own := 0; own <= n; own++ {
			count, ok := impl.CountOwn(n, own)
			if !ok {
				t.Error("CountOwn fails", n, own)
			}
			sum += count
		}
		wantNumber(t, fmt.Sprint("all by CountOwn of ", n), sum, true, product(n))
	}
	count, ok := impl.CountOwn(12, 0)
	wantNumber(t, "CountOwn 12 0", count, ok, 176214841)
	count, ok = impl.CountOwn(12, 5)
	wantNumber(t, "CountOwn 12 5", count, ok, 792*1854)
	count, ok = impl.CountOwn(12, 11)
	wantNumber(t, "CountOwn 12 11", count, ok, 0)
	count, ok = impl.CountOwn(12, 12)
	wantNumber(t, "CountOwn 12 12", count, ok, 1)
}

func TestChanceNone(t *testing.T) {
	for n := 1; n <= 12; n++ {
		num, den, ok := impl.ChanceNone(n)
		if !ok || num*product(n) != nones[n]*den || den < 1 {
			t.Error("ChanceNone", n, "is", num, den, ok)
		}
		for common := 2; common <= den && common <= 12; common++ {
			if num%common == 0 && den%common == 0 {
				t.Error("ChanceNone", n, "not in lowest terms", num, den)
			}
		}
	}
	num, den, ok := impl.ChanceNone(6)
	wantPart(t, "ChanceNone 6", num, den, ok, 53, 144)
	num, den, ok = impl.ChanceNone(12)
	wantPart(t, "ChanceNone 12", num, den, ok, 16019531, 43545600)
}

func TestNonesInOrder(t *testing.T) {
	for n := 2; n <= 7; n++ {
		all := nonesAmong(exchangesOf(n))
		first, ok := impl.FirstNone(n)
		wantList(t, fmt.Sprint("FirstNone ", n), first, ok, all[0]...)
		for k, list := range all {
			rank, ok := impl.RankOfNone(list)
			wantNumber(t, fmt.Sprint("RankOfNone ", list), rank, ok, k)
			ranked, ok := impl.NoneOfRank(n, k)
			wantList(t, fmt.Sprint("NoneOfRank ", n, k), ranked, ok, list...)
		}
		none, ok := impl.NoneOfRank(n, len(all))
		wantNothing(t, fmt.Sprint("NoneOfRank behind all of ", n), none, ok)
	}
}

// TestNextNone goes on from every exchange, those with own coats too.
func TestNextNone(t *testing.T) {
	for n := 1; n <= 7; n++ {
		all := nonesAmong(exchangesOf(n))
		for _, list := range exchangesOf(n) {
			for len(all) > 0 && slices.Compare(all[0], list) <= 0 {
				all = all[1:]
			}
			next, ok := impl.NextNone(list)
			if len(all) == 0 {
				wantNothing(t, fmt.Sprint("NextNone ", list), next, ok)
			} else {
				wantList(t, fmt.Sprint("NextNone ", list), next, ok, all[0]...)
			}
		}
	}
}

func TestRankOfNoneFailsForOwn(t *testing.T) {
	for _, list := range exchangesUpTo(6) {
		if len(ownIn(list)) > 0 {
			rank, ok := impl.RankOfNone(list)
			wantNothing(t, fmt.Sprint("RankOfNone ", list), rank, ok)
		}
	}
	rank, ok := impl.RankOfNone([]int{1, 2, 3, 4, 5, 6, 7, 8, 9, 10, 0, 11})
	wantNothing(t, "RankOfNone of one own coat of twelve", rank, ok)
}

func TestNonesOfTwelve(t *testing.T) {
	pairs := []int{1, 0, 3, 2, 5, 4, 7, 6, 9, 8, 11, 10}
	first, ok := impl.FirstNone(12)
	wantList(t, "FirstNone", first, ok, pairs...)
	next, ok := impl.NextNone(inOrder(12))
	wantList(t, "NextNone of own coats", next, ok, pairs...)
	next, ok = impl.NextNone(pairs)
	wantList(t, "NextNone of the first", next, ok, 1, 0, 3, 2, 5, 4, 7, 6, 9, 10, 11, 8)
	last, ok := impl.NoneOfRank(12, nones[12]-1)
	wantList(t, "the last", last, ok, backwards(12)...)
	rank, ok := impl.RankOfNone(backwards(12))
	wantNumber(t, "RankOfNone of the last", rank, ok, nones[12]-1)
	next, ok = impl.NextNone(backwards(12))
	wantNothing(t, "NextNone of the last", next, ok)
	none, ok := impl.NoneOfRank(12, nones[12])
	wantNothing(t, "NoneOfRank behind the last", none, ok)
	last, ok = impl.NoneOfRank(11, nones[11]-1)
	wantList(t, "the last of eleven", last, ok, 10, 9, 8, 7, 6, 4, 5, 3, 2, 1, 0)
}

func TestRanksToTheLimit(t *testing.T) {
	for n := 8; n <= 12; n++ {
		for rank := 0; rank < nones[n]; rank += nones[n]/97 + 1 {
			list, ok := impl.NoneOfRank(n, rank)
			if !ok || len(list) != n || len(ownIn(list)) > 0 {
				t.Error("NoneOfRank", n, rank, "is", list, ok)
			}
			again, ok := impl.RankOfNone(list)
			wantNumber(t, fmt.Sprint("RankOfNone ", list), again, ok, rank)
			next, ok := impl.NextNone(list)
			if rank+1 == nones[n] {
				wantNothing(t, "NextNone of the last", next, ok)
				continue
			}
			behind, _ := impl.NoneOfRank(n, rank+1)
			wantList(t, fmt.Sprint("NextNone ", list), next, ok, behind...)
		}
	}
}
