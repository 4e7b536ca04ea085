package tests

import (
	"fmt"
	"math"
	"strings"
	"testing"

	"loop.example/g01315/impl"
)

// noExchanges are lists that are no exchanges.
var noExchanges = [][]int{
	nil, {}, {1}, {-1}, {12}, {0, 0}, {1, 1}, {0, 2}, {1, 2}, {0, -1}, {-1, 0}, {0, 1, 1}, {1, 2, 3}, {2, 0, 2}, {0, 1, 2, 4},
	{math.MinInt}, {math.MaxInt}, {0, math.MaxInt}, {math.MinInt, 0}, {0, 1 << 32}, {1, 0, 256},
	{0, 1, 2, 3, 4, 5, 6, 7, 8, 9, 10, 12}, {1, 2, 3, 4, 5, 6, 7, 8, 9, 10, 11, 12}, {0, 1, 2, 3, 4, 5, 6, 7, 8, 9, 10, 10},
	{0, 1, 2, 3, 4, 5, 6, 7, 8, 9, 10, 11, 12}, {12, 11, 10, 9, 8, 7, 6, 5, 4, 3, 2, 1, 0}, {0, 1, 2, 3, 4, 5, 6, 7, 8, 9, 10, 11, 0},
	inOrder(64), inOrder(65), make([]int, 1000),
}

// noCounts are numbers of guests that there cannot be.
var noCounts = []int{0, -1, 13, 14, 64, -12, math.MinInt, math.MaxInt, 1<<32 + 4}

// noTexts are no ExchangeTexts.
var noTexts = []string{
	"", ",", ",,", "0,", ",0", "0,,1", "1,0,", ",1,0", "00", "01,0", "1,00", "+0", "-0", "1,+0", "-1", "0,-1", " 0", "0 ", "0, 1", "0 ,1",
	"0\n", "\n0", "0\x00", "1", "0,0", "1,1", "0,2", "1,2", "1,2,3", "0;1", "0.1", "0,1.", "a", "0,b", "0x0", "0b0", "1_0", "0e0", "٠", "0，1", "\xff",
	"0,1,2,3,4,5,6,7,8,9,10,11,12", "12,11,10,9,8,7,6,5,4,3,2,1,0", "0,1,2,3,4,5,6,7,8,9,10,12", "0,1,2,3,4,5,6,7,8,9,10,11,",
	"99999999999999999999", "18446744073709551616", "-9223372036854775808", "1,9223372036854775807", "10", "0 1", "012", "120",
	strings.Repeat("0", 1000), strings.Repeat("0,", 1000) + "0", strings.Repeat(",", 1000),
}

func TestListsThatAreNoExchanges(t *testing.T) {
	for _, list := range noExchanges {
		what := fmt.Sprint(" of ", list)
		own, ok := impl.OwnCoats(list)
		wantNothing(t, "OwnCoats"+what, own, ok)
		chains, ok := impl.ChainsOf(list)
		wantNothing(t, "ChainsOf"+what, chains, ok)
		who, ok := impl.WhoHas(list, 0)
		wantNothing(t, "WhoHas"+what, who, ok)
		back, ok := impl.BackExchange(list)
		wantNothing(t, "BackExchange"+what, back, ok)
		swapped, ok := impl.SwapCoats(list, 0, 1)
		wantNothing(t, "SwapCoats"+what, swapped, ok)
		few, ok := impl.FewestSwaps(list)
		wantNothing(t, "FewestSwaps"+what, few, ok)
		swaps, ok := impl.FirstSwaps(list)
		wantNothing(t, "FirstSwaps"+what, swaps, ok)
		next, ok := impl.NextNone(list)
		wantNothing(t, "NextNone"+what, next, ok)
		rank, ok := impl.RankOfNone(list)
		wantNothing(t, "RankOfNone"+what, rank, ok)
		times, ok := impl.TimesToRight(list)
		wantNothing(t, "TimesToRight"+what, times, ok)
		text, ok := impl.ExchangeText(list)
		wantNothing(t, "ExchangeText"+what, text, ok)
	}
}

func TestThenExchangeFails(t *testing.T) {
	for _, list := range noExchanges {
		for _, other := range [][]int{list, {0}, {1, 0}, inOrder(12)} {
			both, ok := impl.ThenExchange(list, other)
			wantNothing(t, fmt.Sprint("ThenExchange ", list, other), both, ok)
			both, ok = impl.ThenExchange(other, list)
			wantNothing(t, fmt.Sprint("ThenExchange ", other, list), both, ok)
		}
	}
	for n := 1; n <= 12; n++ {
		for m := 1; m <= 12; m++ {
			both, ok := impl.ThenExchange(inOrder(n), inOrder(m))
			if n != m {
				wantNothing(t, fmt.Sprint("ThenExchange of guests ", n, m), both, ok)
			}
		}
	}
}

func TestNoSuchGuests(t *testing.T) {
	for _, list := range [][]int{{0}, {1, 0}, {1, 2, 0, 3}, backwards(12)} {
		n := len(list)
		for _, number := range []int{-1, n, n + 1, -n, math.MinInt, math.MaxInt, 1 << 32} {
			what := fmt.Sprint(" of ", list, " and ", number)
			who, ok := impl.WhoHas(list, number)
			wantNothing(t, "WhoHas"+what, who, ok)
			swapped, ok := impl.SwapCoats(list, number, 0)
			wantNothing(t, "SwapCoats first"+what, swapped, ok)
			swapped, ok = impl.SwapCoats(list, 0, number)
			wantNothing(t, "SwapCoats second"+what, swapped, ok)
			swapped, ok = impl.SwapCoats(list, number, number)
			wantNothing(t, "SwapCoats both"+what, swapped, ok)
		}
		for i := range list {
			swapped, ok := impl.SwapCoats(list, i, i)
			wantNothing(t, fmt.Sprint("SwapCoats of one guest ", list, i), swapped, ok)
		}
	}
}

func TestNoSuchCounts(t *testing.T) {
	for _, n := range noCounts {
		what := fmt.Sprint(" of guests ", n)
		count, ok := impl.CountNone(n)
		wantNothing(t, "CountNone"+what, count, ok)
		for _, own := range []int{0, 1, n, n - 1, n + 1} {
			count, ok = impl.CountOwn(n, own)
			wantNothing(t, "CountOwn"+what, count, ok)
		}
		num, den, ok := impl.ChanceNone(n)
		wantNothing(t, "ChanceNone"+what, num, den, ok)
		first, ok := impl.FirstNone(n)
		wantNothing(t, "FirstNone"+what, first, ok)
		for _, rank := range []int{0, 1, n, -1} {
			list, ok := impl.NoneOfRank(n, rank)
			wantNothing(t, "NoneOfRank"+what, list, ok)
		}
	}
}

func TestNoSuchOwnOrRank(t *testing.T) {
	for n := 1; n <= 12; n++ {
		for _, own := range []int{-1, n + 1, n + 2, -n, 13, math.MinInt, math.MaxInt} {
			count, ok := impl.CountOwn(n, own)
			wantNothing(t, fmt.Sprint("CountOwn ", n, own), count, ok)
		}
		for _, rank := range []int{-1, nones[n], nones[n] + 1, math.MinInt, math.MaxInt} {
			list, ok := impl.NoneOfRank(n, rank)
			wantNothing(t, fmt.Sprint("NoneOfRank ", n, rank), list, ok)
		}
	}
}

func TestNoExchangeTexts(t *testing.T) {
	for _, text := range noTexts {
		list, ok := impl.ParseExchange(text)
		wantNothing(t, fmt.Sprintf("ParseExchange of %q", text), list, ok)
	}
}

// TestTextsAreReadOneWay tries every short text of a few signs: just those that are ExchangeTexts are read.
func TestTextsAreReadOneWay(t *testing.T) {
	known := map[string]bool{}
	for _, list := range exchangesUpTo(3) {
		known[textOf(list)] = true
	}
	texts := []string{""}
	for range 5 {
		var longer []string
		for _, text := range texts {
			for _, sign := range "012,+- " {
				longer = append(longer, text+string(sign))
			}
		}
		texts = longer
		for _, text := range texts {
			list, ok := impl.ParseExchange(text)
			if ok != known[text] || ok && textOf(list) != text {
				t.Errorf("ParseExchange of %q: %v %v", text, list, ok)
			}
		}
	}
}
