package tests

import (
	"fmt"
	"math"
	"slices"
	"testing"

	"loop.example/g01315/impl"
)

// anyCall is a call with two lists, two numbers and a text, of which a function takes those that it has.
type anyCall struct {
	name string
	call func(a, b []int, i, j int, s string) []any
}

// results makes one list of all that a function returns.
func results(all ...any) []any { return all }

// coatCalls are the calls of all functions of chapter 1.
func coatCalls() []anyCall {
	return []anyCall{
		{"IsExchange", func(a, b []int, i, j int, s string) []any { return results(impl.IsExchange(a)) }},
		{"OwnCoats", func(a, b []int, i, j int, s string) []any { return results(impl.OwnCoats(a)) }},
		{"ChainsOf", func(a, b []int, i, j int, s string) []any { return results(impl.ChainsOf(a)) }},
		{"WhoHas", func(a, b []int, i, j int, s string) []any { return results(impl.WhoHas(a, i)) }},
		{"BackExchange", func(a, b []int, i, j int, s string) []any { return results(impl.BackExchange(a)) }},
		{"ThenExchange", func(a, b []int, i, j int, s string) []any { return results(impl.ThenExchange(a, b)) }},
		{"SwapCoats", func(a, b []int, i, j int, s string) []any { return results(impl.SwapCoats(a, i, j)) }},
		{"FewestSwaps", func(a, b []int, i, j int, s string) []any { return results(impl.FewestSwaps(a)) }},
		{"FirstSwaps", func(a, b []int, i, j int, s string) []any { return results(impl.FirstSwaps(a)) }},
		{"CountNone", func(a, b []int, i, j int, s string) []any { return results(impl.CountNone(i)) }},
		{"CountOwn", func(a, b []int, i, j int, s string) []any { return results(impl.CountOwn(i, j)) }},
		{"ChanceNone", func(a, b []int, i, j int, s string) []any { return results(impl.ChanceNone(i)) }},
		{"FirstNone", func(a, b []int, i, j int, s string) []any { return results(impl.FirstNone(i)) }},
		{"NextNone", func(a, b []int, i, j int, s string) []any { return results(impl.NextNone(a)) }},
		{"RankOfNone", func(a, b []int, i, j int, s string) []any { return results(impl.RankOfNone(a)) }},
		{"NoneOfRank", func(a, b []int, i, j int, s string) []any { return results(impl.NoneOfRank(i, j)) }},
		{"TimesToRight", func(a, b []int, i, j int, s string) []any { return results(impl.TimesToRight(a)) }},
		{"ExchangeText", func(a, b []int, i, j int, s string) []any { return results(impl.ExchangeText(a)) }},
		{"ParseExchange", func(a, b []int, i, j int, s string) []any { return results(impl.ParseExchange(s)) }},
	}
}

// giftCalls are the calls of all functions of chapter 2.
func giftCalls() []anyCall {
	return []anyCall{
		{"AreFamilies", func(a, b []int, i, j int, s string) []any { return results(impl.AreFamilies(a)) }},
		{"FamilySizes", func(a, b []int, i, j int, s string) []any { return results(impl.FamilySizes(a)) }},
		{"IsGiving", func(a, b []int, i, j int, s string) []any { return results(impl.IsGiving(a, b)) }},
		{"CanGive", func(a, b []int, i, j int, s string) []any { return results(impl.CanGive(a)) }},
		{"CountGivings", func(a, b []int, i, j int, s string) []any { return results(impl.CountGivings(a)) }},
		{"FirstGiving", func(a, b []int, i, j int, s string) []any { return results(impl.FirstGiving(a)) }},
		{"NextGiving", func(a, b []int, i, j int, s string) []any { return results(impl.NextGiving(a, b)) }},
		{"GivingOfRank", func(a, b []int, i, j int, s string) []any { return results(impl.GivingOfRank(a, i)) }},
		{"RankOfGiving", func(a, b []int, i, j int, s string) []any { return results(impl.RankOfGiving(a, b)) }},
		{"CountRings", func(a, b []int, i, j int, s string) []any { return results(impl.CountRings(a)) }},
		{"FirstRing", func(a, b []int, i, j int, s string) []any { return results(impl.FirstRing(a)) }},
		{"CountMutual", func(a, b []int, i, j int, s string) []any { return results(impl.CountMutual(a)) }},
		{"GiftsBetween", func(a, b []int, i, j int, s string) []any { return results(impl.GiftsBetween(a, b)) }},
		{"JoinFamilies", func(a, b []int, i, j int, s string) []any { return results(impl.JoinFamilies(a, i, j)) }},
		{"LeaveFamily", func(a, b []int, i, j int, s string) []any { return results(impl.LeaveFamily(a, i)) }},
		{"FamiliesText", func(a, b []int, i, j int, s string) []any { return results(impl.FamiliesText(a)) }},
		{"ParseFamilies", func(a, b []int, i, j int, s string) []any { return results(impl.ParseFamilies(s)) }},
	}
}

func allCalls() []anyCall {
	return slices.Concat(coatCalls(), giftCalls())
}

// twoLists are what a call gets as its first list and as its second one.
type twoLists struct{ a, b []int }

// anyTwoLists are each list twice, and families with exchanges of as many guests, givings among them.
func anyTwoLists() []twoLists {
	var both []twoLists
	for _, list := range anyLists() {
		both = append(both, twoLists{list, list})
	}
	return append(both, twoLists{[]int{0}, []int{0}}, twoLists{[]int{0, 1}, []int{1, 0}}, twoLists{[]int{0, 0, 1, 1}, []int{2, 3, 0, 1}},
		twoLists{[]int{0, 0, 1, 1}, []int{3, 2, 1, 0}}, twoLists{[]int{0, 0, 1, 1}, []int{1, 2, 0, 3}}, twoLists{[]int{0, 0, 1, 2, 1}, []int{2, 3, 4, 0, 1}},
		twoLists{[]int{0, 1, 2, 0, 1, 2, 0, 1, 2}, []int{1, 2, 3, 4, 5, 6, 7, 8, 0}}, twoLists{inOrder(9), []int{8, 7, 6, 5, 3, 4, 2, 1, 0}})
}

// anyLists are exchanges and families, and lists that are neither.
func anyLists() [][]int {
	return append(slices.Concat(noExchanges, noFamilies), []int{0}, []int{0, 1}, []int{1, 0}, []int{1, 2, 0}, []int{1, 2, 0, 3}, []int{3, 2, 1, 0},
		longChains, inOrder(12), backwards(12), []int{1, 0, 3, 2, 5, 4, 7, 6, 9, 8, 11, 10},
		[]int{0, 0, 1, 1}, []int{0, 0, 1}, []int{0, 1, 0, 2, 1}, []int{0, 0, 0, 0, 1, 1, 1, 1}, inOrder(9), make([]int, 9))
}

var anyNumbers = []int{0, 1, 2, 3, 4, 8, 11, 12, 13, 44, 176214840, 176214841, -1, -12, 1 << 31, 1 << 32, math.MaxInt, math.MinInt, math.MaxInt - 1}

func anyTexts() []string {
	return append(slices.Concat(noTexts, noFamilyTexts), "0", "1,0", "1,2,0,3", textOf(longChains), textOf(backwards(12)),
		"01", "0011", "012345678", "000000000")
}

// tryCall makes a call and tells of a panic.
func tryCall(t *testing.T, c anyCall, a, b []int, i, j int, s string) (got []any) {
	t.Helper()
	defer func() {
		if p := recover(); p != nil {
			t.Errorf("%s panics at %v %v %d %d %q: %v", c.name, a, b, i, j, s, p)
		}
	}()
	return c.call(a, b, i, j, s)
}

// mustBeZero requires zero results beside a false.
func mustBeZero(t *testing.T, name string, got []any) {
	t.Helper()
	if len(got) > 0 && got[len(got)-1] == false {
		wantNothing(t, name, got...)
	}
}

func TestNoCallPanics(t *testing.T) {
	for _, c := range allCalls() {
		for _, list := range anyLists() {
			for _, other := range [][]int{nil, {0}, {1, 0}, {1, 2, 0, 3}, {3, 2, 1, 0}, backwards(9), inOrder(12), inOrder(13), list} {
				mustBeZero(t, c.name, tryCall(t, c, list, other, 0, 0, ""))
			}
			for _, i := range anyNumbers {
				for _, j := range anyNumbers {
					mustBeZero(t, c.name, tryCall(t, c, list, list, i, j, ""))
				}
			}
		}
		for _, text := range anyTexts() {
			mustBeZero(t, c.name, tryCall(t, c, nil, nil, 0, 0, text))
		}
	}
}

const spare = 5

// roomy returns a list at the beginning of an array with room behind it, and this array.
func roomy(list []int, behind int) (part []int, whole []int) {
	whole = slices.Clone(list)
	for k := range spare {
		whole = append(whole, behind+k)
	}
	return whole[:len(list)], whole
}

// overwrite writes into all the memory of a result, that behind its length too.
func overwrite(got []any) {
	for _, list := range slicesOf(got) {
		fill(list)
	}
}

func fill(list []int) {
	list = list[:cap(list)]
	for k := range list {
		list[k] = -77
	}
}

// TestCallsKeepArguments looks at the arguments and the memory behind them, behind each call and behind writing into its results.
func TestCallsKeepArguments(t *testing.T) {
	for _, c := range allCalls() {
		for _, lists := range anyTwoLists() {
			for _, numbers := range [][]int{{0, 1}, {4, 2}, {12, 5}} {
				a, wholeA := roomy(lists.a, 40)
				b, wholeB := roomy(lists.b, 50)
				beforeA, beforeB := slices.Clone(wholeA), slices.Clone(wholeB)
				got := c.call(a, b, numbers[0], numbers[1], "1,2,0,3")
				if !slices.Equal(wholeA, beforeA) || !slices.Equal(wholeB, beforeB) {
					t.Errorf("%s writes into %v", c.name, lists)
				}
				overwrite(got)
				if !slices.Equal(wholeA, beforeA) || !slices.Equal(wholeB, beforeB) {
					t.Errorf("%s gives out memory of %v", c.name, lists)
				}
			}
		}
	}
}

// TestCallsDependOnArgumentsAlone makes each call with other memory behind the lists, and once more after its results were written over.
func TestCallsDependOnArgumentsAlone(t *testing.T) {
	for _, c := range allCalls() {
		for _, lists := range anyTwoLists() {
			for _, behind := range []int{0, len(lists.a), 90} {
				a, _ := roomy(lists.a, behind)
				b, _ := roomy(lists.b, behind)
				want := c.call(slices.Clip(slices.Clone(lists.a)), slices.Clip(slices.Clone(lists.b)), 1, 2, "1,2,0,3")
				text := fmt.Sprint(want)
				overwrite(want)
				got := c.call(a, b, 1, 2, "1,2,0,3")
				if fmt.Sprint(got) != text {
					t.Errorf("%s of %v: first %s, then %v", c.name, lists, text, got)
				}
			}
		}
	}
}

// TestResultsShareNoMemory writes over one slice of a result and looks at the others.
func TestResultsShareNoMemory(t *testing.T) {
	for _, c := range allCalls() {
		for _, lists := range anyTwoLists() {
			want := slicesOf(c.call(lists.a, lists.b, 1, 2, "1,2,0,3"))
			for k := range want {
				again := slicesOf(c.call(lists.a, lists.b, 1, 2, "1,2,0,3"))
				fill(again[k])
				again[k] = want[k]
				if !equalLists(again, want) {
					t.Errorf("slices of the result of %s of %v share memory", c.name, lists)
				}
			}
		}
	}
}

// slicesOf returns all lists of numbers that are in a result.
func slicesOf(got []any) [][]int {
	var all [][]int
	for _, r := range got {
		switch x := r.(type) {
		case []int:
			all = append(all, x)
		case [][]int:
			all = append(all, x...)
		}
	}
	return all
}

// TestTextsStay writes over what was read from a text and reads it again.
func TestTextsStay(t *testing.T) {
	for text, read := range map[string]func(string) ([]int, bool){"1,2,0,3": impl.ParseExchange, "0012": impl.ParseFamilies} {
		list, ok := read(text)
		want := slices.Clone(list)
		fill(list)
		again, fine := read(text)
		if !ok || !fine || !slices.Equal(again, want) {
			t.Errorf("%q is read as %v, then %v", text, want, again)
		}
	}
}
