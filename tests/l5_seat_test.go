package tests

import (
	"fmt"
	"math/big"
	"slices"
	"testing"

	"loop.example/g01315/impl"
)

// cameSeating is a seating that can come, with the choices that lead to it and its chance.
type cameSeating struct {
	list, choices []int
	chance        *big.Rat
}

// seatingsComing lets guests sit down one after the other in all ways, by no function of the program.
// It returns the seatings in order.
func seatingsComing(guests, lost int) []cameSeating {
	var all []cameSeating
	var sit func(s cameSeating)
	sit = func(s cameSeating) {
		guest := len(s.list)
		if guest == guests {
			all = append(all, s)
			return
		}
		free := freeBehind(s.list, guests)
		if guest >= lost && slices.Contains(free, guest) {
			sit(cameSeating{append(slices.Clone(s.list), guest), s.choices, s.chance})
			return
		}
		chance := new(big.Rat).Mul(s.chance, big.NewRat(1, int64(len(free))))
		for place, seat := range free {
			sit(cameSeating{append(slices.Clone(s.list), seat), append(slices.Clone(s.choices), place), chance})
		}
	}
	sit(cameSeating{chance: big.NewRat(1, 1)})
	slices.SortFunc(all, func(a, b cameSeating) int { return slices.Compare(a.list, b.list) })
	return all
}

// freeBehind returns the seats that no guest of a list has, increasing.
func freeBehind(list []int, guests int) []int {
	var free []int
	for seat := range guests {
		if !slices.Contains(list, seat) {
			free = append(free, seat)
		}
	}
	return free
}

// listsOf returns the seatings alone.
func listsOf(coming []cameSeating) [][]int {
	var lists [][]int
	for _, s := range coming {
		lists = append(lists, s.list)
	}
	return lists
}

// eachParty calls look for all numbers of guests up to most and of lost tickets, and with the seatings that can come.
func eachParty(most int, look func(guests, lost int, coming []cameSeating)) {
	for guests := 1; guests <= most; guests++ {
		for lost := range guests + 1 {
			look(guests, lost, seatingsComing(guests, lost))
		}
	}
}

func TestSeatLimits(t *testing.T) {
	if impl.MaxSeats != 30 || impl.MaxListedSeats != 7 {
		t.Error("limits", impl.MaxSeats, impl.MaxListedSeats)
	}
}

func TestSeatExample(t *testing.T) {
	count, ok := impl.CountSeatings(3, 1)
	wantNumber(t, "CountSeatings", count, ok, 4)
	all, ok := impl.AllSeatings(3, 1)
	wantLists(t, "AllSeatings", all, ok, []int{0, 1, 2}, []int{1, 0, 2}, []int{1, 2, 0}, []int{2, 1, 0})
	num, den, ok := impl.ChanceOfSeating(1, []int{1, 0, 2})
	wantPart(t, "ChanceOfSeating", num, den, ok, 1, 6)
	num, den, ok = impl.ChanceOwnSeat(3, 1, 2)
	wantPart(t, "ChanceOwnSeat", num, den, ok, 1, 2)
	num, den, ok = impl.MeanOwnSeats(3, 1)
	wantPart(t, "MeanOwnSeats", num, den, ok, 3, 2)
	list, ok := impl.SeatBy(3, 1, []int{1, 0})
	wantList(t, "SeatBy", list, ok, 1, 0, 2)
	choices, ok := impl.ChoicesOf(1, []int{1, 0, 2})
	wantList(t, "ChoicesOf", choices, ok, 1, 0)
}

func TestOneSeat(t *testing.T) {
	for lost, choices := range [][]int{{}, {0}} {
		what := fmt.Sprint(" of one guest with lost tickets ", lost)
		can, ok := impl.CanSeat(lost, []int{0})
		wantBool(t, "CanSeat"+what, can, ok, true)
		count, ok := impl.CountSeatings(1, lost)
		wantNumber(t, "CountSeatings"+what, count, ok, 1)
		all, ok := impl.AllSeatings(1, lost)
		wantLists(t, "AllSeatings"+what, all, ok, []int{0})
		num, den, ok := impl.ChanceOfSeating(lost, []int{0})
		wantPart(t, "ChanceOfSeating"+what, num, den, ok, 1, 1)
		num, den, ok = impl.ChanceOwnSeat(1, lost, 0)
		wantPart(t, "ChanceOwnSeat"+what, num, den, ok, 1, 1)
		num, den, ok = impl.MeanOwnSeats(1, lost)
		wantPart(t, "MeanOwnSeats"+what, num, den, ok, 1, 1)
		for many := range 2 {
			count, ok = impl.CountDisplaced(1, lost, many)
			wantNumber(t, fmt.Sprint("CountDisplaced ", many, what), count, ok, 1-many)
			num, den, ok = impl.ChanceDisplaced(1, lost, many)
			wantPart(t, fmt.Sprint("ChanceDisplaced ", many, what), num, den, ok, 1-many, 1)
		}
		list, ok := impl.SeatBy(1, lost, choices)
		wantList(t, "SeatBy"+what, list, ok, 0)
		again, ok := impl.ChoicesOf(lost, []int{0})
		wantList(t, "ChoicesOf"+what, again, ok, choices...)
		all, ok = impl.LikeliestSeatings(1, lost)
		wantLists(t, "LikeliestSeatings"+what, all, ok, []int{0})
	}
	displaced, ok := impl.DisplacedIn([]int{0})
	wantList(t, "DisplacedIn", displaced, ok)
}

// TestNoLostTicket has all guests on their own seats.
func TestNoLostTicket(t *testing.T) {
	for n := 1; n <= 12; n++ {
		what := fmt.Sprint(" of guests ", n)
		count, ok := impl.CountSeatings(n, 0)
		wantNumber(t, "CountSeatings"+what, count, ok, 1)
		mean, one, ok := impl.MeanOwnSeats(n, 0)
		wantPart(t, "MeanOwnSeats"+what, mean, one, ok, n, 1)
		num, den, ok := impl.ChanceOfSeating(0, inOrder(n))
		wantPart(t, "ChanceOfSeating"+what, num, den, ok, 1, 1)
		list, ok := impl.SeatBy(n, 0, nil)
		wantList(t, "SeatBy"+what, list, ok, inOrder(n)...)
		choices, ok := impl.ChoicesOf(0, inOrder(n))
		wantList(t, "ChoicesOf"+what, choices, ok)
		if n > 1 {
			can, ok := impl.CanSeat(0, backwards(n))
			wantBool(t, "CanSeat"+what, can, ok, false)
		}
	}
}

// TestAllTicketsLost has each exchange with the same chance.
func TestAllTicketsLost(t *testing.T) {
	for n := 1; n <= 12; n++ {
		what := fmt.Sprint(" of guests ", n)
		count, ok := impl.CountSeatings(n, n)
		wantNumber(t, "CountSeatings"+what, count, ok, product(n))
		mean, one, ok := impl.MeanOwnSeats(n, n)
		wantPart(t, "MeanOwnSeats"+what, mean, one, ok, 1, 1)
		for _, list := range [][]int{inOrder(n), backwards(n)} {
			can, ok := impl.CanSeat(n, list)
			wantBool(t, "CanSeat"+what, can, ok, true)
			num, den, ok := impl.ChanceOfSeating(n, list)
			wantPart(t, "ChanceOfSeating"+what, num, den, ok, 1, product(n))
		}
		if n <= 7 {
			all, ok := impl.AllSeatings(n, n)
			wantLists(t, "AllSeatings"+what, all, ok, exchangesOf(n)...)
			all, ok = impl.LikeliestSeatings(n, n)
			wantLists(t, "LikeliestSeatings"+what, all, ok, exchangesOf(n)...)
		}
	}
}

// TestSeatingsAgainstAllExchanges holds each exchange of few guests against the seatings that come.
func TestSeatingsAgainstAllExchanges(t *testing.T) {
	eachParty(7, func(guests, lost int, coming []cameSeating) {
		left := listsOf(coming)
		for _, list := range exchangesOf(guests) {
			want := len(left) > 0 && slices.Equal(left[0], list)
			if want {
				left = left[1:]
			}
			can, ok := impl.CanSeat(lost, list)
			wantBool(t, fmt.Sprint("CanSeat ", lost, list), can, ok, want)
		}
		if len(left) > 0 {
			t.Error("exchanges that are not held against", left)
		}
	})
}

// TestGuestsTakeTheirOwnSeats requires of each seating that a guest with a ticket has another seat just if one before has this guest's.
func TestGuestsTakeTheirOwnSeats(t *testing.T) {
	for guests := 1; guests <= 7; guests++ {
		for lost := range guests + 1 {
			all, ok := impl.AllSeatings(guests, lost)
			if !ok {
				t.Error("AllSeatings fails", guests, lost)
			}
			for _, list := range all {
				for guest := lost; guest < guests; guest++ {
					if (list[guest] != guest) != slices.Contains(list[:guest], guest) {
						t.Error("a guest on a wrong seat", lost, list, guest)
					}
				}
			}
		}
	}
}

func TestCanSeatOfTwelve(t *testing.T) {
	swapped := []int{1, 0, 2, 3, 4, 5, 6, 7, 8, 9, 10, 11}
	around := []int{1, 2, 3, 4, 5, 6, 7, 8, 9, 10, 11, 0}
	back := []int{11, 0, 1, 2, 3, 4, 5, 6, 7, 8, 9, 10}
	last := []int{0, 1, 2, 3, 4, 5, 6, 7, 8, 9, 11, 10}
	for lost := range 13 {
		for _, c := range []struct {
			list []int
			want bool
		}{{inOrder(12), true}, {swapped, lost >= 1}, {around, lost >= 1}, {back, lost >= 11}, {last, lost >= 11}, {backwards(12), lost >= 6}} {
			can, ok := impl.CanSeat(lost, c.list)
			wantBool(t, fmt.Sprint("CanSeat ", lost, c.list), can, ok, c.want)
		}
	}
}

// TestSeatingsAreListedAndCounted holds lists and counts against the seatings that come.
func TestSeatingsAreListedAndCounted(t *testing.T) {
	eachParty(7, func(guests, lost int, coming []cameSeating) {
		what := fmt.Sprint(" ", guests, " ", lost)
		all, ok := impl.AllSeatings(guests, lost)
		wantLists(t, "AllSeatings"+what, all, ok, listsOf(coming)...)
		count, ok := impl.CountSeatings(guests, lost)
		wantNumber(t, "CountSeatings"+what, count, ok, len(coming))
	})
}

// TestCountSeatingsToTheLimit multiplies the numbers of the rule guest by guest, and has some numbers written out.
func TestCountSeatingsToTheLimit(t *testing.T) {
	for guests := 1; guests <= 12; guests++ {
		for lost := range guests + 1 {
			want := 1
			for guest := range guests {
				want *= min(guest, lost) + 1
			}
			count, ok := impl.CountSeatings(guests, lost)
			wantNumber(t, fmt.Sprint("CountSeatings ", guests, " ", lost), count, ok, want)
		}
	}
	for lost, want := range map[int]int{0: 1, 1: 2048, 2: 118098, 6: 84707280, 11: 479001600, 12: 479001600} {
		count, ok := impl.CountSeatings(12, lost)
		wantNumber(t, fmt.Sprint("CountSeatings 12 ", lost), count, ok, want)
	}
}

// displacedOf returns the guests who are not among those on their own seats.
func displacedOf(list []int) []int {
	return slices.DeleteFunc(inOrder(len(list)), func(guest int) bool { return slices.Contains(ownIn(list), guest) })
}

func TestDisplacedGuests(t *testing.T) {
	for _, list := range append(exchangesUpTo(6), inOrder(12), backwards(12)) {
		displaced, ok := impl.DisplacedIn(list)
		wantList(t, fmt.Sprint("DisplacedIn ", list), displaced, ok, displacedOf(list)...)
	}
	displaced, ok := impl.DisplacedIn([]int{11, 1, 2, 10, 4, 5, 6, 7, 8, 9, 3, 0})
	wantList(t, "DisplacedIn of twelve", displaced, ok, 0, 3, 10, 11)
}

// TestCountsByDisplaced counts the seatings that come, and requires that the counts add up to all.
func TestCountsByDisplaced(t *testing.T) {
	eachParty(7, func(guests, lost int, coming []cameSeating) {
		numbers := make([]int, guests+1)
		for _, s := range coming {
			numbers[len(displacedOf(s.list))]++
		}
		sum := 0
		for many, want := range numbers {
			count, ok := impl.CountDisplaced(guests, lost, many)
			wantNumber(t, fmt.Sprint("CountDisplaced ", guests, " ", lost, " ", many), count, ok, want)
			sum += count
		}
		all, ok := impl.CountSeatings(guests, lost)
		wantNumber(t, fmt.Sprint("all by CountDisplaced ", guests, " ", lost), sum, ok, all)
	})
	for many, want := range []int{1, 0, 6, 15, 20, 15, 6, 1} {
		count, ok := impl.CountDisplaced(7, 1, many)
		wantNumber(t, fmt.Sprint("CountDisplaced 7 1 ", many), count, ok, want)
	}
}

// TestChoicesLeadToSeatingsAndBack has each seating of few guests.
func TestChoicesLeadToSeatingsAndBack(t *testing.T) {
	eachParty(6, func(guests, lost int, coming []cameSeating) {
		for _, s := range coming {
			checkChoices(t, lost, s.list, s.choices)
		}
	})
	for _, s := range seatingsComing(7, 3) {
		checkChoices(t, 3, s.list, s.choices)
	}
}

// checkChoices requires that choices lead to a seating and back.
func checkChoices(t *testing.T, lost int, list, choices []int) {
	t.Helper()
	got, ok := impl.SeatBy(len(list), lost, choices)
	wantList(t, fmt.Sprint("SeatBy ", len(list), " ", lost, " ", choices), got, ok, list...)
	back, ok := impl.ChoicesOf(lost, list)
	wantList(t, fmt.Sprint("ChoicesOf ", lost, " ", list), back, ok, choices...)
}

// TestChoicesOfTwelve has as many guests as may choose.
func TestChoicesOfTwelve(t *testing.T) {
	zeros := make([]int, 12)
	checkChoices(t, 12, inOrder(12), zeros)
	checkChoices(t, 12, backwards(12), backwards(12))
	checkChoices(t, 11, inOrder(12), zeros[:11])
	checkChoices(t, 11, backwards(12), backwards(12))
	checkChoices(t, 6, backwards(12), []int{11, 10, 9, 8, 7, 6, 5, 4, 3, 2, 1, 0})
	checkChoices(t, 1, []int{11, 1, 2, 3, 4, 5, 6, 7, 8, 9, 10, 0}, []int{11, 0})
	checkChoices(t, 1, []int{5, 1, 2, 3, 4, 9, 6, 7, 8, 11, 10, 0}, []int{5, 4, 2, 0})
	checkChoices(t, 2, []int{3, 0, 2, 1, 4, 5, 6, 7, 8, 9, 10, 11}, []int{3, 0, 0})
	checkChoices(t, 1, []int{1, 2, 3, 4, 5, 6, 7, 8, 9, 10, 11, 0}, []int{1, 1, 1, 1, 1, 1, 1, 1, 1, 1, 1, 0})
}

// TestEveryChoiceLeadsToOneSeating tries all lists of choices of few guests: those that lead to a seating lead to all of them, each once.
func TestEveryChoiceLeadsToOneSeating(t *testing.T) {
	eachParty(4, func(guests, lost int, coming []cameSeating) {
		var got [][]int
		lists := [][]int{nil}
		for range guests + 2 {
			var longer [][]int
			for _, choices := range lists {
				list, ok := impl.SeatBy(guests, lost, choices)
				if ok {
					got = append(got, list)
				} else {
					wantNothing(t, fmt.Sprint("SeatBy ", guests, lost, choices), list, ok)
				}
				for choice := -1; choice <= guests; choice++ {
					longer = append(longer, append(slices.Clone(choices), choice))
				}
			}
			lists = longer
		}
		slices.SortFunc(got, slices.Compare[[]int])
		wantLists(t, fmt.Sprint("all that SeatBy leads to ", guests, " ", lost), got, true, listsOf(coming)...)
	})
}
