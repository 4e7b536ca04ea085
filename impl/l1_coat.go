package impl

import (
	"slices"
	"strconv"
	"strings"
)

const MaxGuests = 12

// guest is a guest with the coat that this guest gets.
type guest struct {
	number int
	coat   int
}

// chain is a chain told from one guest on, whom the others follow in turn.
type chain struct {
	guest
	others []guest
}

// rack tells which coats of an exchange are taken while it is made guest by guest.
type rack struct {
	guests int
	taken  [MaxGuests]bool
}

// fraction is a fraction in lowest terms, as chances and means are told.
type fraction struct {
	numerator   int
	denominator int
}

// IsExchange reports whether a list of any numbers is an exchange.
func IsExchange(list []int) bool {
	return isGuestCount(len(list)) && areDifferent(list, len(list))
}

// OwnCoats returns the guests who get their own coats, increasing.
func OwnCoats(list []int) ([]int, bool) {
	if !IsExchange(list) {
		return nil, false
	}
	var own []int
	for i, coat := range list {
		if coat == i {
			own = append(own, i)
		}
	}
	return own, true
}

// ChainsOf returns all chains, each from its least guest on, in the order of these.
func ChainsOf(list []int) ([][]int, bool) {
	if !IsExchange(list) {
		return nil, false
	}
	return eachChain(list, chain.numbers), true
}

// WhoHas returns the guest who gets a coat.
func WhoHas(list []int, coat int) (int, bool) {
	if !IsExchange(list) || !isGuest(coat, len(list)) {
		return 0, false
	}
	return slices.Index(list, coat), true
}

// BackExchange returns the exchange in which the guest list[i] gets the coat of i.
func BackExchange(list []int) ([]int, bool) {
	if !IsExchange(list) {
		return nil, false
	}
	back := make([]int, len(list))
	for i, coat := range list {
		back[coat] = i
	}
	return back, true
}

// ThenExchange returns the exchange in which the guest i has what the guest b[i] has by a:
// a is made first, and then each takes what that guest holds.
// It fails if they are not of as many guests.
func ThenExchange(a []int, b []int) ([]int, bool) {
	if !IsExchange(a) || !IsExchange(b) || len(a) != len(b) {
		return nil, false
	}
	both := make([]int, len(a))
	for i, from := range b {
		both[i] = a[from]
	}
	return both, true
}

// SwapCoats returns the exchange in which the guests i and j, different ones, hold what the other one did.
func SwapCoats(list []int, i int, j int) ([]int, bool) {
	if !IsExchange(list) || !isGuest(i, len(list)) || !isGuest(j, len(list)) || i == j {
		return nil, false
	}
	swapped := slices.Clone(list)
	swapped[i], swapped[j] = swapped[j], swapped[i]
	return swapped, true
}

// FewestSwaps returns the least number of such swaps behind which each guest has the own coat:
// the number of guests less that of chains.
func FewestSwaps(list []int) (int, bool) {
	if !IsExchange(list) {
		return 0, false
	}
	return len(list) - len(chainsIn(list)), true
}

// FirstSwaps returns so few swaps, each as two guests:
// again and again the least guest without the own coat swaps with the guest who has it, told in this order.
func FirstSwaps(list []int) ([][]int, bool) {
	if !IsExchange(list) {
		return nil, false
	}
	held := slices.Clone(list)
	var swaps [][]int
	// Once a guest has the own coat it stays there, so one walk finds the least guest each time.
	for i := range held {
		if held[i] == i {
			continue
		}
		holder := slices.Index(held, i)
		held[i], held[holder] = held[holder], held[i]
		swaps = append(swaps, []int{i, holder})
	}
	return swaps, true
}

// CountNone returns how many exchanges of so many guests there are in which nobody gets the own coat.
func CountNone(guests int) (int, bool) {
	if !isGuestCount(guests) {
		return 0, false
	}
	return countApart(guests, guests), true
}

// CountOwn returns how many there are in which just own of them do, own in 0 up to all.
func CountOwn(guests int, own int) (int, bool) {
	if !isGuestCount(guests) || own < 0 || own > guests {
		return 0, false
	}
	others := guests - own
	return countChoices(guests, own) * countApart(others, others), true
}

// ChanceNone returns numerator and denominator, in lowest terms, of the part of all exchanges in which nobody does:
// 0 and 1 for one guest.
func ChanceNone(guests int) (int, int, bool) {
	if !isGuestCount(guests) {
		return 0, 0, false
	}
	return partOf(countApart(guests, guests), factorial(guests)).told()
}

// FirstNone returns the first one of these exchanges. It fails if there is none.
func FirstNone(guests int) ([]int, bool) {
	return NoneOfRank(guests, 0)
}

// NextNone returns the next one of them behind an exchange, whatever that is. It fails if there is none.
func NextNone(list []int) ([]int, bool) {
	if !IsExchange(list) {
		return nil, false
	}
	rank := noneBefore(list)
	if !hasOwn(list) {
		rank++ // The list itself has this rank.
	}
	return NoneOfRank(len(list), rank)
}

// RankOfNone returns how many of them come before an exchange in which nobody gets the own coat.
// It fails for others.
func RankOfNone(list []int) (int, bool) {
	if !IsExchange(list) || hasOwn(list) {
		return 0, false
	}
	return noneBefore(list), true
}

// NoneOfRank returns the one before which just rank others come. It fails if there is none.
func NoneOfRank(guests int, rank int) ([]int, bool) {
	if !isGuestCount(guests) || rank < 0 || rank >= countApart(guests, guests) {
		return nil, false
	}
	left := rack{guests: guests}
	list := make([]int, guests)
	for i := range list {
		for coat := range guests {
			if !left.canTake(i, coat) {
				continue
			}
			next := left.without(coat)
			behind := next.countNone(i + 1)
			if rank < behind {
				list[i], left = coat, next
				break
			}
			rank -= behind
		}
	}
	return list, true
}

// TimesToRight returns the least number of times, at least 1, that an exchange has to be made, each time from what guests hold, until each one has the own coat.
func TimesToRight(list []int) (int, bool) {
	if !IsExchange(list) {
		return 0, false
	}
	return timesOf(eachChain(list, chain.length)), true
}

// ExchangeText returns the numbers with , between them.
func ExchangeText(list []int) (string, bool) {
	if !IsExchange(list) {
		return "", false
	}
	return numbersText(list, ","), true
}

// ParseExchange returns the exchange with an ExchangeText. It fails if there is none.
func ParseExchange(s string) ([]int, bool) {
	list, ok := numbersIn(s, ",", MaxGuests)
	if !ok {
		return nil, false
	}
	// Signs and superfluous zeros are read as numbers, too, but are in no ExchangeText.
	text, ok := ExchangeText(list)
	if !ok || text != s {
		return nil, false
	}
	return list, true
}

// numbersText returns numbers with a sign between them.
func numbersText(numbers []int, between string) string {
	words := make([]string, len(numbers))
	for i, number := range numbers {
		words[i] = strconv.Itoa(number)
	}
	return strings.Join(words, between)
}

// numbersIn reads a text of at most so many numbers with a sign between them. It fails at more numbers, and at other words.
func numbersIn(text string, between string, most int) ([]int, bool) {
	// One word more than there may be is enough to see that a text is too long.
	words := strings.SplitN(text, between, most+1)
	if len(words) > most {
		return nil, false
	}
	numbers := make([]int, len(words))
	for i, word := range words {
		number, err := strconv.Atoi(word)
		if err != nil {
			return nil, false
		}
		numbers[i] = number
	}
	return numbers, true
}

// isGuestCount reports whether there may be so many guests.
func isGuestCount(guests int) bool {
	return guests >= 1 && guests <= MaxGuests
}

// isGuest reports whether a number is one of so many guests, or of their coats.
func isGuest(number int, guests int) bool {
	return number >= 0 && number < guests
}

// areDifferent reports whether the numbers of a list are different ones of so many guests.
func areDifferent(list []int, guests int) bool {
	var seen guestSet
	for _, number := range list {
		if !isGuest(number, guests) || seen.has(number) {
			return false
		}
		seen = seen.with(number)
	}
	return true
}

// hasOwn reports whether any guest of an exchange gets the own coat.
func hasOwn(list []int) bool {
	for i, coat := range list {
		if coat == i {
			return true
		}
	}
	return false
}

func guestOf(list []int, number int) guest {
	return guest{number: number, coat: list[number]}
}

// chainFrom returns the chain of the exchange list that begins with a guest.
func chainFrom(list []int, first int) chain {
	c := chain{guest: guestOf(list, first)}
	for g := guestOf(list, c.coat); g != c.guest; g = guestOf(list, g.coat) {
		c.others = append(c.others, g)
	}
	return c
}

// chainsIn returns the chains of an exchange, each from its least guest on, in the order of these.
func chainsIn(list []int) []chain {
	var seen [MaxGuests]bool
	var chains []chain
	for i := range list {
		if seen[i] {
			continue
		}
		c := chainFrom(list, i)
		for _, number := range c.numbers() {
			seen[number] = true
		}
		chains = append(chains, c)
	}
	return chains
}

// eachChain returns what tell says of each chain of an exchange, in order.
func eachChain[T any](list []int, tell func(chain) T) []T {
	var told []T
	for _, c := range chainsIn(list) {
		told = append(told, tell(c))
	}
	return told
}

// numbers returns the guests of a chain in turn, first the one from whom on it is told.
func (c chain) numbers() []int {
	numbers := []int{c.number}
	for _, g := range c.others {
		numbers = append(numbers, g.number)
	}
	return numbers
}

// length returns how many guests a chain has.
func (c chain) length() int {
	return 1 + len(c.others)
}

// addChain returns a list with one chain more behind it, of so many guests, each of whom gets the coat of the next one.
func addChain(list []int, length int) []int {
	first := len(list)
	for next := first + 1; next < first+length; next++ {
		list = append(list, next)
	}
	return append(list, first)
}

// timesOf returns the least number of times, at least 1, behind which chains of some lengths are all right.
func timesOf(lengths []int) int {
	times := 1
	for _, length := range lengths {
		times = times / commonDivisor(times, length) * length
	}
	return times
}

// canTake reports whether a guest may take a coat, one that is there and not the own one.
func (r rack) canTake(number int, coat int) bool {
	return coat != number && !r.taken[coat]
}

// without returns the rack from which a coat is taken.
func (r rack) without(coat int) rack {
	r.taken[coat] = true
	return r
}

// countNone returns in how many ways the guests from next on can take the coats that are left, none the own one.
func (r rack) countNone(next int) int {
	held := 0
	for number := next; number < r.guests; number++ {
		if !r.taken[number] {
			held++
		}
	}
	return countApart(r.guests-next, held)
}

// noneBefore returns how many exchanges without own coats come before an exchange, whatever that is.
func noneBefore(list []int) int {
	before := 0
	left := rack{guests: len(list)}
	for i, coat := range list {
		for lesser := range coat {
			if left.canTake(i, lesser) {
				before += left.without(lesser).countNone(i + 1)
			}
		}
		if coat == i {
			break // No exchange without own coats begins like this one.
		}
		left = left.without(coat)
	}
	return before
}

// countApart returns in how many ways so many guests can take as many coats
// if just held of them have their own coats among these, and may not take them.
func countApart(guests int, held int) int {
	ways := make([]int, guests+1)
	for i := range ways {
		ways[i] = factorial(i)
	}
	// With one more own coat forbidden, those ways go in which that guest takes it:
	// as many as there are for one guest less with one own coat less forbidden.
	for range held {
		for i := guests; i > 0; i-- {
			ways[i] -= ways[i-1]
		}
	}
	return ways[guests]
}

func factorial(n int) int {
	product := 1
	for i := 2; i <= n; i++ {
		product *= i
	}
	return product
}

// countChoices returns in how many ways some of all can be chosen.
func countChoices(all int, some int) int {
	return factorial(all) / (factorial(some) * factorial(all-some))
}

// commonDivisor returns the greatest common divisor of two numbers that are not both 0.
func commonDivisor(a int, b int) int {
	for b != 0 {
		a, b = b, a%b
	}
	return a
}

// partOf returns the part that some are of all, of which there is at least one.
func partOf(some int, all int) fraction {
	common := commonDivisor(some, all)
	return fraction{numerator: some / common, denominator: all / common}
}

// plus returns the sum of two fractions.
func (f fraction) plus(g fraction) fraction {
	return partOf(f.numerator*g.denominator+g.numerator*f.denominator, f.denominator*g.denominator)
}

// told returns numerator and denominator of a fraction, as a call that succeeds tells it.
func (f fraction) told() (int, int, bool) {
	return f.numerator, f.denominator, true
}
