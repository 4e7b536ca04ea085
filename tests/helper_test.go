package tests

import (
	"slices"
	"strings"
	"testing"

	"loop.example/g01315/impl"
)

// exchangesOf returns all exchanges of so many guests in lexicographic order, by no function of the program.
func exchangesOf(guests int) [][]int {
	var all [][]int
	var extend func(list []int)
	extend = func(list []int) {
		if len(list) == guests {
			all = append(all, slices.Clone(list))
			return
		}
		for coat := range guests {
			if !slices.Contains(list, coat) {
				extend(append(slices.Clone(list), coat))
			}
		}
	}
	extend(nil)
	return all
}

// exchangesUpTo returns all exchanges of 1 up to so many guests.
func exchangesUpTo(guests int) [][]int {
	var all [][]int
	for n := 1; n <= guests; n++ {
		all = append(all, exchangesOf(n)...)
	}
	return all
}

// nonesAmong returns those exchanges in which nobody gets the own coat.
func nonesAmong(exchanges [][]int) [][]int {
	var nones [][]int
	for _, list := range exchanges {
		if len(ownIn(list)) == 0 {
			nones = append(nones, list)
		}
	}
	return nones
}

func ownIn(list []int) []int {
	var own []int
	for i, coat := range list {
		if i == coat {
			own = append(own, i)
		}
	}
	return own
}

// inOrder returns 0, 1, .. for so many guests.
func inOrder(guests int) []int {
	list := make([]int, guests)
	for i := range list {
		list[i] = i
	}
	return list
}

func backwards(guests int) []int {
	list := inOrder(guests)
	slices.Reverse(list)
	return list
}

func product(n int) int {
	if n < 2 {
		return 1
	}
	return n * product(n-1)
}

// equalLists compares lists of lists, a nil slice and an empty one being the same.
func equalLists(a, b [][]int) bool {
	return slices.EqualFunc(a, b, slices.Equal[[]int])
}

func wantList(t *testing.T, what string, got []int, ok bool, want ...int) {
	t.Helper()
	if !ok || !slices.Equal(got, want) {
		t.Errorf("%s: got %v %v, want %v true", what, got, ok, want)
	}
}

func wantLists(t *testing.T, what string, got [][]int, ok bool, want ...[]int) {
	t.Helper()
	if !ok || !equalLists(got, want) {
		t.Errorf("%s: got %v %v, want %v true", what, got, ok, want)
	}
}

func wantNumber(t *testing.T, what string, got int, ok bool, want int) {
	t.Helper()
	if !ok || got != want {
		t.Errorf("%s: got %d %v, want %d true", what, got, ok, want)
	}
}

// wantBool requires that a call succeeds and reports whether something is so.
func wantBool(t *testing.T, what string, got bool, ok bool, want bool) {
	t.Helper()
	if !ok || got != want {
		t.Errorf("%s: got %v %v, want %v true", what, got, ok, want)
	}
}

func wantPart(t *testing.T, what string, num, den int, ok bool, wantNum, wantDen int) {
	t.Helper()
	if !ok || num != wantNum || den != wantDen {
		t.Errorf("%s: got %d / %d %v, want %d / %d true", what, num, den, ok, wantNum, wantDen)
	}
}

func wantText(t *testing.T, what string, got string, ok bool, want string) {
	t.Helper()
	if !ok || got != want {
		t.Errorf("%s: got %q %v, want %q true", what, got, ok, want)
	}
}

// wantNothing requires of a call that it fails, with zero results beside the false.
func wantNothing(t *testing.T, what string, results ...any) {
	t.Helper()
	last := len(results) - 1
	if results[last] != false {
		t.Errorf("%s: got %v, want it to fail", what, results)
	}
	for _, r := range results[:last] {
		if !isZero(r) {
			t.Errorf("%s: got %v beside the false, want zero", what, r)
		}
	}
}

func isZero(result any) bool {
	switch r := result.(type) {
	case int:
		return r == 0
	case string:
		return r == ""
	case []int:
		return len(r) == 0
	case [][]int:
		return len(r) == 0
	case []string:
		return len(r) == 0
	case impl.HatPlan:
		return r.Colours == 0 && len(r.Guesses) == 0
	case impl.Puzzle:
		return r.Guests == 0 && len(r.Clues) == 0
	case impl.Desk:
		return len(r.Coats) == 0 && r.Board == ""
	}
	return result == false
}

// textOf returns the numbers with commas between them, for any list.
func textOf(list []int) string {
	const digits = "0123456789"
	var words []string
	for _, n := range list {
		word := digits[n%10 : n%10+1]
		if n >= 10 {
			word = digits[n/10:n/10+1] + word
		}
		words = append(words, word)
	}
	return strings.Join(words, ",")
}
