package tests

import (
	"fmt"
	"math"
	"reflect"
	"slices"
	"testing"

	"loop.example/g01315/impl"
)

// anyCall is a call with two lists, two numbers and a text, of which a function takes those that it has.
type anyCall struct {
	name string
	call func(a, b []int, i, j int, s string) []any
}

// results makes one list of all that a function returns.
func results(all ...any) []any { return all }

// coatCalls are the calls of all functions of chapter 1.
func coatCalls() []anyCall {
	return []anyCall{
		{"IsExchange", func(a, b []int, i, j int, s string) []any { return results(impl.IsExchange(a)) }},
		{"OwnCoats", func(a, b []int, i, j int, s string) []any { return results(impl.OwnCoats(a)) }},
		{"ChainsOf", func(a, b []int, i, j int, s string) []any { return results(impl.ChainsOf(a)) }},
		{"WhoHas", func(a, b []int, i, j int, s string) []any { return results(impl.WhoHas(a, i)) }},
		{"BackExchange", func(a, b []int, i, j int, s string) []any { return results(impl.BackExchange(a)) }},
		{"ThenExchange", func(a, b []int, i, j int, s string) []any { return results(impl.ThenExchange(a, b)) }},
		{"SwapCoats", func(a, b []int, i, j int, s string) []any { return results(impl.SwapCoats(a, i, j)) }},
		{"FewestSwaps", func(a, b []int, i, j int, s string) []any { return results(impl.FewestSwaps(a)) }},
		{"FirstSwaps", func(a, b []int, i, j int, s string) []any { return results(impl.FirstSwaps(a)) }},
		{"CountNone", func(a, b []int, i, j int, s string) []any { return results(impl.CountNone(i)) }},
		{"CountOwn", func(a, b []int, i, j int, s string) []any { return results(impl.CountOwn(i, j)) }},
		{"ChanceNone", func(a, b []int, i, j int, s string) []any { return results(impl.ChanceNone(i)) }},
		{"FirstNone", func(a, b []int, i, j int, s string) []any { return results(impl.FirstNone(i)) }},
		{"NextNone", func(a, b []int, i, j int, s string) []any { return results(impl.NextNone(a)) }},
		{"RankOfNone", func(a, b []int, i, j int, s string) []any { return results(impl.RankOfNone(a)) }},
		{"NoneOfRank", func(a, b []int, i, j int, s string) []any { return results(impl.NoneOfRank(i, j)) }},
		{"TimesToRight", func(a, b []int, i, j int, s string) []any { return results(impl.TimesToRight(a)) }},
		{"ExchangeText", func(a, b []int, i, j int, s string) []any { return results(impl.ExchangeText(a)) }},
		{"ParseExchange", func(a, b []int, i, j int, s string) []any { return results(impl.ParseExchange(s)) }},
	}
}

// anyLists are exchanges and lists that are none.
func anyLists() [][]int {
	return append(slices.Clone(noExchanges), []int{0}, []int{0, 1}, []int{1, 0}, []int{1, 2, 0}, []int{1, 2, 0, 3}, []int{3, 2, 1, 0},
		longChains, inOrder(12), backwards(12), []int{1, 0, 3, 2, 5, 4, 7, 6, 9, 8, 11, 10})
}

var anyNumbers = []int{0, 1, 2, 3, 4, 8, 11, 12, 13, 44, 176214840, 176214841, -1, -12, 1 << 31, 1 << 32, math.MaxInt, math.MinInt, math.MaxInt - 1}

func anyTexts() []string {
	return append(slices.Clone(noTexts), "0", "1,0", "1,2,0,3", textOf(longChains), textOf(backwards(12)))
}

// tryCall makes a call and tells of a panic.
func tryCall(t *testing.T, c anyCall, a, b []int, i, j int, s string) (got []any) {
	t.Helper()
	defer func() {
		if p := recover(); p != nil {
			t.Errorf("%s panics at %v %v %d %d %q: %v", c.name, a, b, i, j, s, p)
		}
	}()
	return c.call(a, b, i, j, s)
}

// mustBeZero requires zero results beside a false.
func mustBeZero(t *testing.T, name string, got []any) {
	t.Helper()
	if len(got) > 0 && got[len(got)-1] == false {
		wantNothing(t, name, got...)
	}
}

func TestNoCallPanics(t *testing.T) {
	for _, c := range coatCalls() {
		for _, list := range anyLists() {
			for _, other := range [][]int{nil, {0}, {1, 2, 0, 3}, inOrder(12), inOrder(13), list} {
				mustBeZero(t, c.name, tryCall(t, c, list, other, 0, 0, ""))
			}
			for _, i := range anyNumbers {
				for _, j := range anyNumbers {
					mustBeZero(t, c.name, tryCall(t, c, list, list, i, j, ""))
				}
			}
		}
		for _, text := range anyTexts() {
			mustBeZero(t, c.name, tryCall(t, c, nil, nil, 0, 0, text))
		}
	}
}

const spare = 5

// roomy returns a list at the beginning of an array with room behind it, and this array.
func roomy(list []int, behind int) (part []int, whole []int) {
	whole = slices.Clone(list)
	for k := range spare {
		whole = append(whole, behind+k)
	}
	return whole[:len(list)], whole
}

// overwrite writes into all the memory of a result, that behind its length too.
func overwrite(got []any) {
	for _, r := range got {
		switch x := r.(type) {
		case []int:
			fill(x)
		case [][]int:
			for _, inner := range x {
				fill(inner)
			}
		}
	}
}

func fill(list []int) {
	list = list[:cap(list)]
	for k := range list {
		list[k] = -77
	}
}

// TestCallsKeepArguments looks at the arguments and the memory behind them, behind each call and behind writing into its results.
func TestCallsKeepArguments(t *testing.T) {
	for _, c := range coatCalls() {
		for _, list := range anyLists() {
			for _, numbers := range [][]int{{0, 1}, {4, 2}, {12, 5}} {
				a, wholeA := roomy(list, 40)
				b, wholeB := roomy(list, 50)
				beforeA, beforeB := slices.Clone(wholeA), slices.Clone(wholeB)
				got := c.call(a, b, numbers[0], numbers[1], "1,2,0,3")
				if !slices.Equal(wholeA, beforeA) || !slices.Equal(wholeB, beforeB) {
					t.Errorf("%s writes into %v", c.name, list)
				}
				overwrite(got)
				if !slices.Equal(wholeA, beforeA) || !slices.Equal(wholeB, beforeB) {
					t.Errorf("%s gives out memory of %v", c.name, list)
				}
			}
		}
	}
}

// TestCallsDependOnArgumentsAlone makes each call with other memory behind the lists, and once more after its results were written over.
func TestCallsDependOnArgumentsAlone(t *testing.T) {
	for _, c := range coatCalls() {
		for _, list := range anyLists() {
			for _, behind := range []int{0, len(list), 90} {
				a, _ := roomy(list, behind)
				b, _ := roomy(list, behind)
				clipped := slices.Clip(slices.Clone(list))
				want := c.call(clipped, clipped, 4, 2, "1,2,0,3")
				text := fmt.Sprint(want)
				overwrite(want)
				got := c.call(a, b, 4, 2, "1,2,0,3")
				if fmt.Sprint(got) != text {
					t.Errorf("%s of %v: first %s, then %v", c.name, list, text, got)
				}
			}
		}
	}
}

// TestResultsShareNoMemory writes over one slice of a result and looks at the others.
func TestResultsShareNoMemory(t *testing.T) {
	for _, list := range anyLists() {
		for _, tell := range []func([]int) ([][]int, bool){impl.ChainsOf, impl.FirstSwaps} {
			lists, ok := tell(list)
			if !ok {
				continue
			}
			for k := range lists {
				again, _ := tell(list)
				fill(again[k])
				if !reflect.DeepEqual(slices.Delete(again, k, k+1), slices.Delete(slices.Clone(lists), k, k+1)) {
					t.Errorf("results of %v share memory", list)
				}
			}
		}
	}
}

func TestTextsStay(t *testing.T) {
	bytes := []byte("1,2,0,3")
	text := string(bytes)
	list, ok := impl.ParseExchange(text)
	fill(list)
	again, fine := impl.ParseExchange(text)
	if !ok || !fine || text != "1,2,0,3" || !slices.Equal(again, []int{1, 2, 0, 3}) {
		t.Error("ParseExchange keeps", again)
	}
}
