package tests

import (
	"fmt"
	"math/big"
	"slices"
	"testing"

	"loop.example/g01315/impl"
)

// wantRat requires a chance or a mean, which a rational number tells in lowest terms, 0 as 0 and 1.
func wantRat(t *testing.T, what string, num, den int, ok bool, want *big.Rat) {
	t.Helper()
	wantPart(t, what, num, den, ok, int(want.Num().Int64()), int(want.Denom().Int64()))
}

// ownChance adds the chances of all seatings in which a guest is on the own seat.
func ownChance(coming []cameSeating, guest int) *big.Rat {
	sum := new(big.Rat)
	for _, s := range coming {
		if s.list[guest] == guest {
			sum.Add(sum, s.chance)
		}
	}
	return sum
}

// TestChancesOfSeatings has all exchanges of few guests, those that cannot come too, and adds the chances.
func TestChancesOfSeatings(t *testing.T) {
	eachParty(7, func(guests, lost int, coming []cameSeating) {
		sum := new(big.Rat)
		left := coming
		for _, list := range exchangesOf(guests) {
			want := new(big.Rat)
			if len(left) > 0 && slices.Equal(left[0].list, list) {
				want, left = left[0].chance, left[1:]
			}
			num, den, ok := impl.ChanceOfSeating(lost, list)
			wantRat(t, fmt.Sprint("ChanceOfSeating ", lost, list), num, den, ok, want)
			sum.Add(sum, big.NewRat(int64(num), int64(max(den, 1))))
		}
		if sum.Cmp(big.NewRat(1, 1)) != 0 {
			t.Error("chances of seatings add up to", sum, guests, lost)
		}
	})
}

func TestChancesOfTwelve(t *testing.T) {
	around := []int{1, 2, 3, 4, 5, 6, 7, 8, 9, 10, 11, 0}
	for _, c := range []struct {
		lost     int
		list     []int
		num, den int
	}{
		{0, inOrder(12), 1, 1}, {0, around, 0, 1}, {1, inOrder(12), 1, 12}, {2, inOrder(12), 1, 132}, {1, around, 1, 479001600}, {12, around, 1, 479001600},
		{1, []int{11, 1, 2, 3, 4, 5, 6, 7, 8, 9, 10, 0}, 1, 12}, {1, []int{10, 1, 2, 3, 4, 5, 6, 7, 8, 9, 0, 11}, 1, 24}, {11, inOrder(12), 1, 479001600},
		{5, backwards(12), 0, 1}, {6, backwards(12), 1, 479001600}, {1, []int{1, 0, 3, 2, 4, 5, 6, 7, 8, 9, 10, 11}, 0, 1},
	} {
		num, den, ok := impl.ChanceOfSeating(c.lost, c.list)
		wantPart(t, fmt.Sprint("ChanceOfSeating ", c.lost, c.list), num, den, ok, c.num, c.den)
	}
}

// TestOwnSeatsAgainstSeatings has chances and means of few guests from all seatings that come.
func TestOwnSeatsAgainstSeatings(t *testing.T) {
	eachParty(7, func(guests, lost int, coming []cameSeating) {
		mean := new(big.Rat)
		for guest := range guests {
			want := ownChance(coming, guest)
			num, den, ok := impl.ChanceOwnSeat(guests, lost, guest)
			wantRat(t, fmt.Sprint("ChanceOwnSeat ", guests, lost, guest), num, den, ok, want)
			mean.Add(mean, want)
		}
		num, den, ok := impl.MeanOwnSeats(guests, lost)
		wantRat(t, fmt.Sprint("MeanOwnSeats ", guests, lost), num, den, ok, mean)
	})
}

// TestOwnSeatsByRule has all numbers of guests that there may be, and the rule for guests with tickets.
func TestOwnSeatsByRule(t *testing.T) {
	for guests := 1; guests <= 30; guests++ {
		for lost := range guests + 1 {
			for guest := lost; guest < guests; guest++ {
				num, den, ok := impl.ChanceOwnSeat(guests, lost, guest)
				wantRat(t, fmt.Sprint("ChanceOwnSeat ", guests, lost, guest), num, den, ok, big.NewRat(int64(guests-guest), int64(guests-guest+lost)))
			}
		}
	}
}

// ownChancesStepwise goes from guest to guest with the chances of how many seats are free before the one of the guest who comes.
// As many guests sit behind it and on it, each of these seats being taken with the same chance.
func ownChancesStepwise(guests, lost int) []*big.Rat {
	own := make([]*big.Rat, guests)
	chances := map[int]*big.Rat{0: big.NewRat(1, 1)}
	for guest := range guests {
		seats := int64(guests - guest)
		next := map[int]*big.Rat{}
		own[guest] = new(big.Rat)
		come := func(before int, chance *big.Rat, of int64) {
			if next[before] == nil {
				next[before] = new(big.Rat)
			}
			next[before].Add(next[before], new(big.Rat).Mul(chance, big.NewRat(of, seats)))
		}
		for before, chance := range chances {
			// As many of the seats are free as guests come still, and those that are not before it are as many less.
			free := int64(before)
			taken := new(big.Rat).Mul(chance, big.NewRat(free, seats))
			if before > 0 {
				come(before-1, taken, free)
			}
			come(before, taken, seats-free)
			has := new(big.Rat).Mul(chance, big.NewRat(seats-free, seats))
			if guest >= lost {
				own[guest].Add(own[guest], has)
				come(before, has, seats)
				continue
			}
			own[guest].Add(own[guest], new(big.Rat).Mul(has, big.NewRat(1, seats)))
			come(before, has, free+1)
			come(before+1, has, seats-free-1)
		}
		chances = next
	}
	return own
}

func TestOwnSeatsToTheLimit(t *testing.T) {
	for guests := 1; guests <= 30; guests++ {
		for lost := range guests + 1 {
			for guest, want := range ownChancesStepwise(guests, lost) {
				num, den, ok := impl.ChanceOwnSeat(guests, lost, guest)
				wantRat(t, fmt.Sprint("ChanceOwnSeat ", guests, lost, guest), num, den, ok, want)
			}
		}
	}
	for _, c := range []struct{ lost, guest, num, den int }{
		{1, 29, 1, 2}, {30, 29, 1, 30}, {30, 0, 1, 30}, {1, 0, 1, 30}, {1, 1, 29, 30}, {10, 10, 2, 3}, {10, 9, 1, 30}, {29, 29, 1, 30}, {29, 28, 1, 30}, {0, 0, 1, 1}, {0, 29, 1, 1},
	} {
		num, den, ok := impl.ChanceOwnSeat(30, c.lost, c.guest)
		wantPart(t, fmt.Sprint("ChanceOwnSeat 30 ", c.lost, " ", c.guest), num, den, ok, c.num, c.den)
	}
}

// TestMeansToTheLimit adds the chances of all guests.
func TestMeansToTheLimit(t *testing.T) {
	for guests := 1; guests <= 12; guests++ {
		for lost := range guests + 1 {
			mean := new(big.Rat)
			for _, own := range ownChancesStepwise(guests, lost) {
				mean.Add(mean, own)
			}
			num, den, ok := impl.MeanOwnSeats(guests, lost)
			wantRat(t, fmt.Sprint("MeanOwnSeats ", guests, lost), num, den, ok, mean)
		}
	}
	num, den, ok := impl.MeanOwnSeats(12, 1)
	wantPart(t, "MeanOwnSeats 12 1", num, den, ok, 248929, 27720)
	num, den, ok = impl.MeanOwnSeats(12, 11)
	wantPart(t, "MeanOwnSeats 12 11", num, den, ok, 1, 1)
}

// TestChancesByDisplaced adds the chances of the seatings with so many displaced guests, and then of all numbers of these.
func TestChancesByDisplaced(t *testing.T) {
	eachParty(7, func(guests, lost int, coming []cameSeating) {
		wants := make([]big.Rat, guests+1)
		for _, s := range coming {
			many := len(displacedOf(s.list))
			wants[many].Add(&wants[many], s.chance)
		}
		all, own := new(big.Rat), new(big.Rat)
		for many := range wants {
			num, den, ok := impl.ChanceDisplaced(guests, lost, many)
			wantRat(t, fmt.Sprint("ChanceDisplaced ", guests, lost, many), num, den, ok, &wants[many])
			chance := big.NewRat(int64(num), int64(max(den, 1)))
			all.Add(all, chance)
			own.Add(own, chance.Mul(chance, big.NewRat(int64(guests-many), 1)))
		}
		if all.Cmp(big.NewRat(1, 1)) != 0 {
			t.Error("chances by displaced guests add up to", all, guests, lost)
		}
		num, den, ok := impl.MeanOwnSeats(guests, lost)
		wantRat(t, fmt.Sprint("MeanOwnSeats by displaced guests ", guests, lost), num, den, ok, own)
	})
	for many, want := range [][2]int{{1, 3}, {0, 1}, {1, 2}, {1, 6}} {
		num, den, ok := impl.ChanceDisplaced(3, 1, many)
		wantPart(t, fmt.Sprint("ChanceDisplaced 3 1 ", many), num, den, ok, want[0], want[1])
	}
}

// TestLikeliestSeatings holds them against the chances of all seatings.
func TestLikeliestSeatings(t *testing.T) {
	eachParty(7, func(guests, lost int, coming []cameSeating) {
		greatest := new(big.Rat)
		for _, s := range coming {
			if s.chance.Cmp(greatest) > 0 {
				greatest = s.chance
			}
		}
		likeliest := slices.DeleteFunc(coming, func(s cameSeating) bool { return s.chance.Cmp(greatest) < 0 })
		got, ok := impl.LikeliestSeatings(guests, lost)
		wantLists(t, fmt.Sprint("LikeliestSeatings ", guests, lost), got, ok, listsOf(likeliest)...)
	})
	got, ok := impl.LikeliestSeatings(4, 1)
	wantLists(t, "LikeliestSeatings 4 1", got, ok, []int{0, 1, 2, 3}, []int{3, 1, 2, 0})
	got, ok = impl.LikeliestSeatings(7, 2)
	wantLists(t, "LikeliestSeatings 7 2", got, ok, []int{0, 1, 2, 3, 4, 5, 6}, []int{0, 6, 2, 3, 4, 5, 1}, []int{1, 0, 2, 3, 4, 5, 6}, []int{1, 6, 2, 3, 4, 5, 0},
		[]int{6, 0, 2, 3, 4, 5, 1}, []int{6, 1, 2, 3, 4, 5, 0})
	got, ok = impl.LikeliestSeatings(7, 0)
	wantLists(t, "LikeliestSeatings 7 0", got, ok, inOrder(7))
}
