package tests

import (
	"fmt"
	"math"
	"slices"
	"strings"
	"testing"

	"loop.example/g01315/impl"
)

// hatPlanCall is a call with a hat plan, and with hats and a guest if the function takes them.
type hatPlanCall struct {
	name string
	call func(p impl.HatPlan, hats string, guest int) []any
}

func hatPlanCalls() []hatPlanCall {
	return []hatPlanCall{
		{"IsHatPlan", func(p impl.HatPlan, hats string, guest int) []any { return results(impl.IsHatPlan(p)) }},
		{"ViewOf", func(p impl.HatPlan, hats string, guest int) []any { return results(impl.ViewOf(p, hats, guest)) }},
		{"GuessesOf", func(p impl.HatPlan, hats string, guest int) []any { return results(impl.GuessesOf(p, hats)) }},
		{"RightGuests", func(p impl.HatPlan, hats string, guest int) []any { return results(impl.RightGuests(p, hats)) }},
		{"LeastRight", func(p impl.HatPlan, hats string, guest int) []any { return results(impl.LeastRight(p)) }},
		{"MostRight", func(p impl.HatPlan, hats string, guest int) []any { return results(impl.MostRight(p)) }},
		{"CountByRight", func(p impl.HatPlan, hats string, guest int) []any { return results(impl.CountByRight(p)) }},
		{"WorstHats", func(p impl.HatPlan, hats string, guest int) []any { return results(impl.WorstHats(p)) }},
		{"MaskPlan", func(p impl.HatPlan, hats string, guest int) []any { return results(impl.MaskPlan(p, hats)) }},
		{"HatPlanText", func(p impl.HatPlan, hats string, guest int) []any { return results(impl.HatPlanText(p)) }},
	}
}

// hatTexts are hats of few and of many guests, and texts that are no hats.
func hatTexts() []string {
	all := slices.Concat(rowsUpTo(3, 3), noRows(2), noRows(3), noPlanTexts(), longRows(2)[:3], longRows(3)[:3])
	for _, p := range someHatPlans() {
		all = append(all, planText(p))
	}
	return append(all, "0110", "0212", "2222")
}

// TestNoHatPlanCallPanics has plans and lists that are no plans, each with hats and other texts, and with any guest.
func TestNoHatPlanCallPanics(t *testing.T) {
	for _, c := range hatPlanCalls() {
		for _, p := range slices.Concat(someHatPlans(), noHatPlans()) {
			hats := strings.Repeat("1", min(len(p.Guesses), 40))
			for _, guest := range []int{0, 1, 3, 4, -1, math.MaxInt, math.MinInt} {
				mustBeZero(t, c.name, tryHatCall(t, c, p, hats, guest))
			}
			for _, text := range []string{"", "0", "00", "012", "2222", "0\xff", "é", "00000", strings.Repeat("0", 1000)} {
				mustBeZero(t, c.name, tryHatCall(t, c, p, text, 0))
			}
		}
		for _, p := range someHatPlans() {
			for _, text := range hatTexts() {
				for _, guest := range []int{0, 3, -1, math.MaxInt} {
					mustBeZero(t, c.name, tryHatCall(t, c, p, text, guest))
				}
			}
		}
	}
}

func tryHatCall(t *testing.T, c hatPlanCall, p impl.HatPlan, hats string, guest int) []any {
	t.Helper()
	call := func(a, b []int, i, j int, s string) []any { return c.call(p, s, i) }
	return tryCall(t, anyCall{c.name, call}, nil, nil, guest, 0, hats)
}

// TestNoHatCallPanics has all numbers with texts of rows and of plans, and with others.
func TestNoHatCallPanics(t *testing.T) {
	for _, c := range hatCalls() {
		for _, text := range hatTexts() {
			for _, i := range hatNumbers {
				for _, j := range []int{-1, 0, 1, 2, 3, math.MaxInt, math.MinInt} {
					mustBeZero(t, c.name, tryCall(t, c, nil, nil, i, j, text))
				}
			}
		}
	}
	for _, seen := range hatTexts() {
		for _, heard := range []string{"", "0", "012", strings.Repeat("1", 30), strings.Repeat("1", 31), "\xff", "é", "1x"} {
			c := anyCall{"HeardInRow", func(a, b []int, i, j int, s string) []any { return results(impl.HeardInRow(i, j, s, heard)) }}
			for colours := 1; colours <= 4; colours++ {
				mustBeZero(t, c.name, tryCall(t, c, nil, nil, colours, 1, seen))
			}
		}
	}
}

// roomyHatPlan returns a plan whose texts are at the beginning of an array with room behind it, and this array.
func roomyHatPlan(p impl.HatPlan, behind string) (impl.HatPlan, []string) {
	whole := append(slices.Clone(p.Guesses), behind, behind, behind)
	return impl.HatPlan{Colours: p.Colours, Guesses: whole[:len(p.Guesses)]}, whole
}

// TestHatPlanCallsKeepArguments has hats that are masks by which a plan changes, and others by which it does not.
func TestHatPlanCallsKeepArguments(t *testing.T) {
	for _, c := range hatPlanCalls() {
		for _, given := range slices.Concat(hatPlansOf(2, 2), someHatPlans(), noHatPlans()[:40]) {
			for _, colour := range []string{"0", "1"} {
				keepsHatPlan(t, c, given, strings.Repeat(colour, min(len(given.Guesses), 40)))
			}
		}
	}
}

// keepsHatPlan looks at a plan and the memory behind its texts, and makes the same call with other memory there.
func keepsHatPlan(t *testing.T, c hatPlanCall, given impl.HatPlan, hats string) {
	t.Helper()
	want := c.call(impl.HatPlan{Colours: given.Colours, Guesses: slices.Clip(slices.Clone(given.Guesses))}, hats, 0)
	text := fmt.Sprint(want)
	overwrite(want)
	for _, behind := range append([]string{"", "x"}, given.Guesses[:min(1, len(given.Guesses))]...) {
		p, whole := roomyHatPlan(given, behind)
		before := slices.Clone(whole)
		got := c.call(p, hats, 0)
		if fmt.Sprint(got) != text {
			t.Errorf("%s of %v with %q behind: first %s, then %v", c.name, given, behind, text, got)
		}
		overwrite(got)
		if !slices.Equal(whole, before) {
			t.Errorf("%s writes into %v, or gives out its memory", c.name, given)
		}
	}
}

// TestHatCallsDependOnArgumentsAlone writes over the results of calls without a plan, and makes them again.
func TestHatCallsDependOnArgumentsAlone(t *testing.T) {
	for _, c := range hatCalls() {
		for _, text := range append(hatTexts(), "01", "2:01:10") {
			for _, numbers := range [][2]int{{2, 2}, {2, 1}, {3, 2}, {4, 3}, {3, 0}} {
				first := c.call(nil, nil, numbers[0], numbers[1], text)
				want := fmt.Sprint(first)
				overwrite(first)
				if got := c.call(nil, nil, numbers[0], numbers[1], text); fmt.Sprint(got) != want {
					t.Errorf("%s of %v %.80q: first %s, then %v", c.name, numbers, text, want, got)
				}
			}
		}
	}
}
