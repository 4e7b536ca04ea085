package tests

import (
	"fmt"
	"slices"
	"testing"

	"loop.example/g01315/impl"
)

// numbersOfTypes tells how many types there are of 0, 1, .. guests.
var numbersOfTypes = []int{1, 1, 2, 3, 5, 7, 11, 15, 22, 30, 42, 56, 77}

// lengthsIn returns the lengths of the chains of an exchange, none greater than the one before, by going along the chains.
func lengthsIn(list []int) []int {
	var lengths []int
	seen := make([]bool, len(list))
	for first := range list {
		length := 0
		for i := first; !seen[i]; i = list[i] {
			seen[i] = true
			length++
		}
		if length > 0 {
			lengths = append(lengths, length)
		}
	}
	slices.Sort(lengths)
	slices.Reverse(lengths)
	return lengths
}

// allTypesOf returns all types of so many guests from the greatest one down:
// types of fewer guests with one guest alone more or with one guest more in a chain, put in order.
func allTypesOf(guests int) [][]int {
	if guests == 0 {
		return [][]int{nil}
	}
	var all [][]int
	for _, fewer := range allTypesOf(guests - 1) {
		all = append(all, append(slices.Clone(fewer), 1))
		for k := range fewer {
			longer := slices.Clone(fewer)
			longer[k]++
			if isFalling(longer) {
				all = append(all, longer)
			}
		}
	}
	slices.SortFunc(all, func(a, b []int) int { return slices.Compare(b, a) })
	return slices.CompactFunc(all, slices.Equal[[]int])
}

func isFalling(list []int) bool {
	for k := 1; k < len(list); k++ {
		if list[k] > list[k-1] {
			return false
		}
	}
	return true
}

func sumOf(list []int) int {
	sum := 0
	for _, n := range list {
		sum += n
	}
	return sum
}

// eachType calls look with all types of 1 up to most guests.
func eachType(most int, look func(kind []int)) {
	for guests := 1; guests <= most; guests++ {
		for _, kind := range allTypesOf(guests) {
			look(kind)
		}
	}
}

// eachExchanges calls look with all exchanges of 1, 2, .. up to seven guests.
func eachExchanges(look func(guests int, exchanges [][]int)) {
	for guests := 1; guests <= 7; guests++ {
		look(guests, exchangesOf(guests))
	}
}

func TestChainLimit(t *testing.T) {
	if impl.MaxTypes != 77 {
		t.Error("MaxTypes", impl.MaxTypes)
	}
}

func TestChainExample(t *testing.T) {
	types, ok := impl.TypesOf(4)
	wantLists(t, "TypesOf", types, ok, []int{4}, []int{3, 1}, []int{2, 2}, []int{2, 1, 1}, []int{1, 1, 1, 1})
	for k, want := range []int{6, 8, 3, 6, 1} {
		count, ok := impl.CountType(types[k])
		wantNumber(t, fmt.Sprint("CountType ", types[k]), count, ok, want)
	}
	count, ok := impl.CountByChains(4, 2)
	wantNumber(t, "CountByChains", count, ok, 11)
	num, den, ok := impl.MeanChains(4)
	wantPart(t, "MeanChains", num, den, ok, 25, 12)
	count, ok = impl.CountLongest(4, 2)
	wantNumber(t, "CountLongest", count, ok, 9)
	num, den, ok = impl.ChanceLongest(4, 2)
	wantPart(t, "ChanceLongest", num, den, ok, 5, 12)
	count, ok = impl.CountPairsAlone(4)
	wantNumber(t, "CountPairsAlone", count, ok, 10)
	first, ok := impl.FirstOfType([]int{2, 1, 1})
	wantList(t, "FirstOfType", first, ok, 0, 1, 3, 2)
	twice, ok := impl.TwiceType([]int{4})
	wantList(t, "TwiceType", twice, ok, 2, 2)
	times, ok := impl.GreatestTimes(5)
	wantNumber(t, "GreatestTimes", times, ok, 6)
}

// TestOneGuestInOneChain has one guest, who is a chain alone.
func TestOneGuestInOneChain(t *testing.T) {
	one := []int{0}
	kind, ok := impl.TypeOf(one)
	wantList(t, "TypeOf", kind, ok, 1)
	types, ok := impl.TypesOf(1)
	wantLists(t, "TypesOf", types, ok, []int{1})
	first, ok := impl.FirstOfType([]int{1})
	wantList(t, "FirstOfType", first, ok, 0)
	twice, ok := impl.TwiceType([]int{1})
	wantList(t, "TwiceType", twice, ok, 1)
	root, ok := impl.FirstRoot(one)
	wantList(t, "FirstRoot", root, ok, 0)
	for number := range 2 {
		count, ok := impl.CountByChains(1, number)
		wantNumber(t, fmt.Sprint("CountByChains ", number), count, ok, number)
		num, den, ok := impl.ChanceLongest(1, number)
		wantPart(t, fmt.Sprint("ChanceLongest ", number), num, den, ok, number, 1)
	}
	num, den, ok := impl.MeanChains(1)
	wantPart(t, "MeanChains", num, den, ok, 1, 1)
	num, den, ok = impl.MeanOfLength(1, 1)
	wantPart(t, "MeanOfLength", num, den, ok, 1, 1)
	for name, call := range map[string]func() (int, bool){
		"CountType":       func() (int, bool) { return impl.CountType([]int{1}) },
		"CountLongest":    func() (int, bool) { return impl.CountLongest(1, 1) },
		"CountShortest":   func() (int, bool) { return impl.CountShortest(1, 1) },
		"CountPairsAlone": func() (int, bool) { return impl.CountPairsAlone(1) },
		"CountRoots":      func() (int, bool) { return impl.CountRoots(one) },
		"TimesOfType":     func() (int, bool) { return impl.TimesOfType([]int{1}) },
		"CountByTimes":    func() (int, bool) { return impl.CountByTimes(1, 1) },
		"GreatestTimes":   func() (int, bool) { return impl.GreatestTimes(1) },
	} {
		count, ok := call()
		wantNumber(t, name, count, ok, 1)
	}
	count, ok := impl.CountByTimes(1, 2)
	wantNumber(t, "CountByTimes 2", count, ok, 0)
}

func TestTypesOfExchanges(t *testing.T) {
	for _, list := range slices.Concat(drawersToLookInto(), exchangesOf(7)) {
		kind, ok := impl.TypeOf(list)
		wantList(t, fmt.Sprint("TypeOf ", list), kind, ok, lengthsIn(list)...)
	}
	for _, c := range []struct{ list, want []int }{
		{[]int{1, 2, 0, 3}, []int{3, 1}}, {[]int{0, 2, 1, 4, 5, 3}, []int{3, 2, 1}}, {longChains, []int{5, 4, 3}}, {fiveChains, []int{4, 3, 2, 2, 1}},
		{inOrder(12), []int{1, 1, 1, 1, 1, 1, 1, 1, 1, 1, 1, 1}}, {backwards(12), []int{2, 2, 2, 2, 2, 2}}, {backwards(11), []int{2, 2, 2, 2, 2, 1}},
		{[]int{1, 2, 3, 4, 5, 6, 7, 8, 9, 10, 11, 0}, []int{12}}, {[]int{0, 2, 3, 4, 5, 6, 7, 8, 9, 10, 11, 1}, []int{11, 1}},
	} {
		kind, ok := impl.TypeOf(c.list)
		wantList(t, fmt.Sprint("TypeOf ", c.list), kind, ok, c.want...)
	}
}

// TestTypesAgainstChains holds the type of an exchange against its ChainsOf.
func TestTypesAgainstChains(t *testing.T) {
	for _, list := range drawersToLookInto() {
		chains, fine := impl.ChainsOf(list)
		var want []int
		for _, c := range chains {
			want = append(want, len(c))
		}
		slices.SortFunc(want, func(a, b int) int { return b - a })
		kind, ok := impl.TypeOf(list)
		wantList(t, fmt.Sprint("TypeOf ", list), kind, ok && fine, want...)
	}
}

func TestAllTypesInOrder(t *testing.T) {
	for guests := 1; guests <= 12; guests++ {
		types, ok := impl.TypesOf(guests)
		wantLists(t, fmt.Sprint("TypesOf ", guests), types, ok, allTypesOf(guests)...)
		if len(types) != numbersOfTypes[guests] || len(types) > impl.MaxTypes {
			t.Error("TypesOf", guests, "are", len(types))
		}
		for k, kind := range types {
			if sumOf(kind) != guests || !isFalling(kind) || slices.Min(kind) < 1 {
				t.Error("TypesOf", guests, "has", kind)
			}
			if k > 0 && slices.Compare(types[k-1], kind) <= 0 {
				t.Error("TypesOf", guests, "has", types[k-1], "before", kind)
			}
		}
	}
}

func TestTypesWrittenOut(t *testing.T) {
	types, ok := impl.TypesOf(2)
	wantLists(t, "TypesOf 2", types, ok, []int{2}, []int{1, 1})
	types, ok = impl.TypesOf(3)
	wantLists(t, "TypesOf 3", types, ok, []int{3}, []int{2, 1}, []int{1, 1, 1})
	types, ok = impl.TypesOf(6)
	wantLists(t, "TypesOf 6", types, ok, []int{6}, []int{5, 1}, []int{4, 2}, []int{4, 1, 1}, []int{3, 3}, []int{3, 2, 1}, []int{3, 1, 1, 1},
		[]int{2, 2, 2}, []int{2, 2, 1, 1}, []int{2, 1, 1, 1, 1}, []int{1, 1, 1, 1, 1, 1})
	types, ok = impl.TypesOf(12)
	if !ok || len(types) != 77 {
		t.Fatal("TypesOf 12", types, ok)
	}
	wantLists(t, "the first TypesOf 12", types[:5], ok, []int{12}, []int{11, 1}, []int{10, 2}, []int{10, 1, 1}, []int{9, 3})
	wantLists(t, "the last TypesOf 12", types[75:], ok, []int{2, 1, 1, 1, 1, 1, 1, 1, 1, 1, 1}, slices.Repeat([]int{1}, 12))
}

// TestTypesShareNoMemory writes over each of all types in turn, behind its length too, and looks at the others.
func TestTypesShareNoMemory(t *testing.T) {
	for guests := 1; guests <= 12; guests++ {
		want, _ := impl.TypesOf(guests)
		types, _ := impl.TypesOf(guests)
		for k := range types {
			fill(types[k])
			if !equalLists(types[k+1:], want[k+1:]) {
				t.Fatal("TypesOf", guests, "share memory with", want[k])
			}
		}
		again, ok := impl.TypesOf(guests)
		wantLists(t, fmt.Sprint("TypesOf once more ", guests), again, ok, want...)
	}
}

// TestTypesOfSmallLists has all short lists of small numbers: just the types are taken.
func TestTypesOfSmallLists(t *testing.T) {
	for _, list := range listsUpTo(4, -1, 4) {
		is := len(list) > 0 && isFalling(list) && slices.Min(list) >= 1 && sumOf(list) <= 12
		wantOnly(t, fmt.Sprint("CountType ", list), is, results(impl.CountType(list))...)
		wantOnly(t, fmt.Sprint("FirstOfType ", list), is, results(impl.FirstOfType(list))...)
		wantOnly(t, fmt.Sprint("TwiceType ", list), is, results(impl.TwiceType(list))...)
		wantOnly(t, fmt.Sprint("TimesOfType ", list), is, results(impl.TimesOfType(list))...)
	}
}

// TestFirstOfTypesAmongAll looks for the first one of all exchanges of up to eight guests in order.
func TestFirstOfTypesAmongAll(t *testing.T) {
	for guests := 1; guests <= 8; guests++ {
		firsts := map[string][]int{}
		for _, list := range exchangesOf(guests) {
			if kind := textOf(lengthsIn(list)); firsts[kind] == nil {
				firsts[kind] = list
			}
		}
		for _, kind := range allTypesOf(guests) {
			first, ok := impl.FirstOfType(kind)
			wantList(t, fmt.Sprint("FirstOfType ", kind), first, ok, firsts[textOf(kind)]...)
		}
	}
}

// searchedFirst returns the first exchange behind a beginning whose chains are those of a type, by trying all coats in order.
// A beginning is left as soon as it has closed a chain that the type does not have, or has no more.
func searchedFirst(beginning []int, guests int, kind []int) []int {
	if !areAmong(closedIn(beginning), kind) {
		return nil
	}
	if len(beginning) == guests {
		return beginning
	}
	for coat := range guests {
		if slices.Contains(beginning, coat) {
			continue
		}
		if list := searchedFirst(append(slices.Clone(beginning), coat), guests, kind); list != nil {
			return list
		}
	}
	return nil
}

// closedIn returns the lengths of the chains that are closed in the beginning of an exchange.
func closedIn(beginning []int) []int {
	var lengths []int
	for first := range beginning {
		length, i := 1, beginning[first]
		for i > first && i < len(beginning) {
			length, i = length+1, beginning[i]
		}
		if i == first {
			lengths = append(lengths, length)
		}
	}
	return lengths
}

// areAmong reports whether a list has all numbers of another one, each as often.
func areAmong(numbers, list []int) bool {
	left := slices.Clone(list)
	for _, n := range numbers {
		k := slices.Index(left, n)
		if k < 0 {
			return false
		}
		left = slices.Delete(left, k, k+1)
	}
	return true
}

// TestFirstOfTypesToTheLimit searches the first exchange of each type, and has some of them written out.
func TestFirstOfTypesToTheLimit(t *testing.T) {
	eachType(12, func(kind []int) {
		first, ok := impl.FirstOfType(kind)
		wantList(t, fmt.Sprint("FirstOfType ", kind), first, ok, searchedFirst(nil, sumOf(kind), kind)...)
		of, ok := impl.TypeOf(first)
		wantList(t, fmt.Sprint("TypeOf FirstOfType ", kind), of, ok, kind...)
	})
	for _, c := range []struct{ kind, want []int }{
		{[]int{12}, []int{1, 2, 3, 4, 5, 6, 7, 8, 9, 10, 11, 0}}, {slices.Repeat([]int{1}, 12), inOrder(12)}, {[]int{2, 2, 2, 2, 2, 2}, []int{1, 0, 3, 2, 5, 4, 7, 6, 9, 8, 11, 10}},
		{[]int{11, 1}, []int{0, 2, 3, 4, 5, 6, 7, 8, 9, 10, 11, 1}}, {[]int{5, 4, 3}, []int{1, 2, 0, 4, 5, 6, 3, 8, 9, 10, 11, 7}}, {[]int{4, 3, 2, 2, 1}, []int{0, 2, 1, 4, 3, 6, 7, 5, 9, 10, 11, 8}},
		{[]int{3, 2}, []int{1, 0, 3, 4, 2}}, {[]int{6, 6}, []int{1, 2, 3, 4, 5, 0, 7, 8, 9, 10, 11, 6}},
	} {
		first, ok := impl.FirstOfType(c.kind)
		wantList(t, fmt.Sprint("FirstOfType ", c.kind), first, ok, c.want...)
	}
}
