package tests

import (
	"fmt"
	"slices"
	"strings"
	"testing"

	"loop.example/g01315/impl"
)

// familiesOf returns all families of so many guests, by no function of the program.
func familiesOf(guests int) [][]int {
	all := [][]int{nil}
	for range guests {
		var longer [][]int
		for _, families := range all {
			told := 0
			for _, family := range families {
				told = max(told, family+1)
			}
			for family := range told + 1 {
				longer = append(longer, append(slices.Clone(families), family))
			}
		}
		all = longer
	}
	return all
}

// familiesUpTo returns all families of 1 up to so many guests.
func familiesUpTo(guests int) [][]int {
	var all [][]int
	for n := 1; n <= guests; n++ {
		all = append(all, familiesOf(n)...)
	}
	return all
}

// nineGivers are families of as many guests as there may be: one alone, all alone, just under half and just over, and mixed ones.
var nineGivers = [][]int{
	{0, 0, 0, 0, 0, 0, 0, 0, 0}, {0, 1, 2, 3, 4, 5, 6, 7, 8}, {0, 0, 0, 0, 1, 1, 1, 1, 2}, {0, 1, 0, 1, 0, 1, 0, 1, 2}, {0, 1, 1, 1, 1, 2, 3, 4, 5},
	{0, 0, 0, 0, 0, 1, 1, 1, 1}, {0, 1, 1, 1, 1, 1, 2, 3, 4}, {0, 0, 0, 1, 1, 1, 2, 2, 2}, {0, 1, 2, 0, 1, 2, 0, 1, 2}, {0, 1, 2, 2, 1, 0, 3, 4, 3},
}

func sizesIn(families []int) []int {
	sizes := make([]int, slices.Max(families)+1)
	for _, family := range families {
		sizes[family]++
	}
	return sizes
}

func TestGiftLimit(t *testing.T) {
	if impl.MaxGivers != 9 {
		t.Error("MaxGivers", impl.MaxGivers)
	}
}

func TestGiftExample(t *testing.T) {
	families, ok := impl.ParseFamilies("0011")
	wantList(t, "ParseFamilies", families, ok, 0, 0, 1, 1)
	count, ok := impl.CountGivings(families)
	wantNumber(t, "CountGivings", count, ok, 4)
	count, ok = impl.CountRings(families)
	wantNumber(t, "CountRings", count, ok, 2)
	count, ok = impl.CountMutual(families)
	wantNumber(t, "CountMutual", count, ok, 2)
	giving, ok := impl.FirstGiving(families)
	wantList(t, "FirstGiving", giving, ok, 2, 3, 0, 1)
	for ok {
		gifts, fine := impl.GiftsBetween(families, giving)
		wantLists(t, fmt.Sprint("GiftsBetween of ", giving), gifts, fine, []int{0, 2}, []int{2, 0})
		giving, ok = impl.NextGiving(families, giving)
	}
	can, ok := impl.CanGive([]int{0, 0, 1})
	if can || !ok {
		t.Error("CanGive of 001 is", can, ok)
	}
	joined, ok := impl.JoinFamilies([]int{0, 1, 2}, 0, 2)
	wantList(t, "JoinFamilies", joined, ok, 0, 1, 0)
}

func TestGiverAlone(t *testing.T) {
	alone := []int{0}
	if !impl.AreFamilies(alone) {
		t.Error("AreFamilies")
	}
	sizes, ok := impl.FamilySizes(alone)
	wantList(t, "FamilySizes", sizes, ok, 1)
	is, ok := impl.IsGiving(alone, alone)
	wantBool(t, "IsGiving", is, ok, false)
	can, ok := impl.CanGive(alone)
	wantBool(t, "CanGive", can, ok, false)
	count, ok := impl.CountGivings(alone)
	wantNumber(t, "CountGivings", count, ok, 0)
	count, ok = impl.CountRings(alone)
	wantNumber(t, "CountRings", count, ok, 0)
	count, ok = impl.CountMutual(alone)
	wantNumber(t, "CountMutual", count, ok, 0)
	list, ok := impl.FirstGiving(alone)
	wantNothing(t, "FirstGiving", list, ok)
	list, ok = impl.NextGiving(alone, alone)
	wantNothing(t, "NextGiving", list, ok)
	list, ok = impl.GivingOfRank(alone, 0)
	wantNothing(t, "GivingOfRank", list, ok)
	rank, ok := impl.RankOfGiving(alone, alone)
	wantNothing(t, "RankOfGiving", rank, ok)
	list, ok = impl.FirstRing(alone)
	wantNothing(t, "FirstRing", list, ok)
	gifts, ok := impl.GiftsBetween(alone, alone)
	wantNothing(t, "GiftsBetween", gifts, ok)
	list, ok = impl.JoinFamilies(alone, 0, 0)
	wantNothing(t, "JoinFamilies", list, ok)
	list, ok = impl.LeaveFamily(alone, 0)
	wantList(t, "LeaveFamily", list, ok, 0)
	text, ok := impl.FamiliesText(alone)
	wantText(t, "FamiliesText", text, ok, "0")
	list, ok = impl.ParseFamilies("0")
	wantList(t, "ParseFamilies", list, ok, 0)
}

func TestAreFamilies(t *testing.T) {
	for _, families := range append(familiesUpTo(7), nineGivers...) {
		if !impl.AreFamilies(families) {
			t.Error("no families", families)
		}
	}
	for _, list := range noFamilies {
		if impl.AreFamilies(list) {
			t.Error("families", list)
		}
	}
}

// TestAreFamiliesOfSmallLists holds every list of up to 4 small numbers against what families are.
func TestAreFamiliesOfSmallLists(t *testing.T) {
	lists := [][]int{nil}
	for n := 1; n <= 4; n++ {
		known := familiesOf(n)
		var longer [][]int
		for _, list := range lists {
			for number := -1; number <= 5; number++ {
				longer = append(longer, append(slices.Clone(list), number))
			}
		}
		lists = longer
		for _, list := range lists {
			want := slices.ContainsFunc(known, func(f []int) bool { return slices.Equal(f, list) })
			if impl.AreFamilies(list) != want {
				t.Errorf("AreFamilies of %v: want %v", list, want)
			}
		}
	}
}

func TestFamilySizes(t *testing.T) {
	for _, families := range append(familiesUpTo(7), nineGivers...) {
		sizes, ok := impl.FamilySizes(families)
		wantList(t, fmt.Sprint("FamilySizes of ", families), sizes, ok, sizesIn(families)...)
	}
	sizes, ok := impl.FamilySizes([]int{0, 1, 1, 2, 1, 0, 1, 3, 3})
	wantList(t, "FamilySizes", sizes, ok, 2, 4, 1, 2)
}

// merged tells families, in which those of a and b are one, by the guests with whom each guest is.
func merged(families []int, a, b int) [][]bool {
	with := make([][]bool, len(families))
	one := func(f, g int) bool { return f == g || f == a && g == b || f == b && g == a }
	for i, f := range families {
		for _, g := range families {
			with[i] = append(with[i], one(f, g))
		}
	}
	return with
}

// wantTogether requires families in which just those guests are of one family who are together.
func wantTogether(t *testing.T, what string, families []int, ok bool, with [][]bool) {
	t.Helper()
	if !ok || !impl.AreFamilies(families) || len(families) != len(with) {
		t.Errorf("%s: got %v %v", what, families, ok)
		return
	}
	for i, row := range with {
		for j, together := range row {
			if (families[i] == families[j]) != together {
				t.Errorf("%s: got %v, want %v of %d and %d together", what, families, together, i, j)
			}
		}
	}
}

func TestJoinFamilies(t *testing.T) {
	for _, families := range append(familiesUpTo(6), nineGivers...) {
		n := len(sizesIn(families))
		for a := range n {
			for b := range n {
				joined, ok := impl.JoinFamilies(families, a, b)
				what := fmt.Sprint("JoinFamilies ", families, a, b)
				if a == b {
					wantNothing(t, what, joined, ok)
				} else {
					wantTogether(t, what, joined, ok, merged(families, a, b))
				}
			}
		}
	}
	joined, ok := impl.JoinFamilies([]int{0, 1, 2, 3, 2, 1, 0, 4, 5}, 4, 1)
	wantList(t, "JoinFamilies", joined, ok, 0, 1, 2, 3, 2, 1, 0, 1, 4)
	joined, ok = impl.JoinFamilies([]int{0, 1, 2, 3, 2, 1, 0, 4, 5}, 0, 3)
	wantList(t, "JoinFamilies", joined, ok, 0, 1, 2, 0, 2, 1, 0, 3, 4)
	joined, ok = impl.JoinFamilies([]int{0, 1}, 1, 0)
	wantList(t, "JoinFamilies of both", joined, ok, 0, 0)
}

func TestLeaveFamily(t *testing.T) {
	for _, families := range append(familiesUpTo(6), nineGivers...) {
		for guest := range families {
			with := merged(families, 0, 0)
			for i := range with {
				with[i][guest], with[guest][i] = i == guest, i == guest
			}
			left, ok := impl.LeaveFamily(families, guest)
			wantTogether(t, fmt.Sprint("LeaveFamily ", families, guest), left, ok, with)
		}
	}
	left, ok := impl.LeaveFamily([]int{0, 0, 1, 1, 2}, 0)
	wantList(t, "LeaveFamily of the first", left, ok, 0, 1, 2, 2, 3)
	left, ok = impl.LeaveFamily([]int{0, 0, 1, 1, 2}, 2)
	wantList(t, "LeaveFamily in the middle", left, ok, 0, 0, 1, 2, 3)
	left, ok = impl.LeaveFamily([]int{0, 1, 2}, 1)
	wantList(t, "LeaveFamily of one alone", left, ok, 0, 1, 2)
	left, ok = impl.LeaveFamily(make([]int, 9), 8)
	wantList(t, "LeaveFamily of nine", left, ok, 0, 0, 0, 0, 0, 0, 0, 0, 1)
}

func TestFamiliesTexts(t *testing.T) {
	for _, families := range append(familiesUpTo(7), nineGivers...) {
		want := strings.ReplaceAll(textOf(families), ",", "")
		text, ok := impl.FamiliesText(families)
		wantText(t, fmt.Sprint("FamiliesText of ", families), text, ok, want)
		parsed, ok := impl.ParseFamilies(want)
		wantList(t, "ParseFamilies of "+want, parsed, ok, families...)
	}
	text, ok := impl.FamiliesText(inOrder(9))
	wantText(t, "FamiliesText of nine families", text, ok, "012345678")
}

// TestFamiliesAreReadOneWay tries every short text of a few signs: just FamiliesTexts are read.
func TestFamiliesAreReadOneWay(t *testing.T) {
	known := map[string]bool{}
	for _, families := range familiesUpTo(5) {
		known[strings.ReplaceAll(textOf(families), ",", "")] = true
	}
	texts := []string{""}
	for range 5 {
		var longer []string
		for _, text := range texts {
			for _, sign := range "01234,- " {
				longer = append(longer, text+string(sign))
			}
		}
		texts = longer
		for _, text := range texts {
			families, ok := impl.ParseFamilies(text)
			if ok != known[text] || ok && strings.ReplaceAll(textOf(families), ",", "") != text {
				t.Errorf("ParseFamilies of %q: %v %v", text, families, ok)
			}
		}
	}
}
