package tests

import (
	"fmt"
	"math"
	"slices"
	"testing"

	"loop.example/g01315/impl"
)

// anyCall is a call with two lists, two numbers and a text, of which a function takes those that it has.
type anyCall struct {
	name string
	call func(a, b []int, i, j int, s string) []any
}

// results makes one list of all that a function returns.
func results(all ...any) []any { return all }

// coatCalls are the calls of all functions of chapter 1.
func coatCalls() []anyCall {
	return []anyCall{
		{"IsExchange", func(a, b []int, i, j int, s string) []any { return results(impl.IsExchange(a)) }},
		{"OwnCoats", func(a, b []int, i, j int, s string) []any { return results(impl.OwnCoats(a)) }},
		{"ChainsOf", func(a, b []int, i, j int, s string) []any { return results(impl.ChainsOf(a)) }},
		{"WhoHas", func(a, b []int, i, j int, s string) []any { return results(impl.WhoHas(a, i)) }},
		{"BackExchange", func(a, b []int, i, j int, s string) []any { return results(impl.BackExchange(a)) }},
		{"ThenExchange", func(a, b []int, i, j int, s string) []any { return results(impl.ThenExchange(a, b)) }},
		{"SwapCoats", func(a, b []int, i, j int, s string) []any { return results(impl.SwapCoats(a, i, j)) }},
		{"FewestSwaps", func(a, b []int, i, j int, s string) []any { return results(impl.FewestSwaps(a)) }},
		{"FirstSwaps", func(a, b []int, i, j int, s string) []any { return results(impl.FirstSwaps(a)) }},
		{"CountNone", func(a, b []int, i, j int, s string) []any { return results(impl.CountNone(i)) }},
		{"CountOwn", func(a, b []int, i, j int, s string) []any { return results(impl.CountOwn(i, j)) }},
		{"ChanceNone", func(a, b []int, i, j int, s string) []any { return results(impl.ChanceNone(i)) }},
		{"FirstNone", func(a, b []int, i, j int, s string) []any { return results(impl.FirstNone(i)) }},
		{"NextNone", func(a, b []int, i, j int, s string) []any { return results(impl.NextNone(a)) }},
		{"RankOfNone", func(a, b []int, i, j int, s string) []any { return results(impl.RankOfNone(a)) }},
		{"NoneOfRank", func(a, b []int, i, j int, s string) []any { return results(impl.NoneOfRank(i, j)) }},
		{"TimesToRight", func(a, b []int, i, j int, s string) []any { return results(impl.TimesToRight(a)) }},
		{"ExchangeText", func(a, b []int, i, j int, s string) []any { return results(impl.ExchangeText(a)) }},
		{"ParseExchange", func(a, b []int, i, j int, s string) []any { return results(impl.ParseExchange(s)) }},
	}
}

// giftCalls are the calls of all functions of chapter 2.
func giftCalls() []anyCall {
	return []anyCall{
		{"AreFamilies", func(a, b []int, i, j int, s string) []any { return results(impl.AreFamilies(a)) }},
		{"FamilySizes", func(a, b []int, i, j int, s string) []any { return results(impl.FamilySizes(a)) }},
		{"IsGiving", func(a, b []int, i, j int, s string) []any { return results(impl.IsGiving(a, b)) }},
		{"CanGive", func(a, b []int, i, j int, s string) []any { return results(impl.CanGive(a)) }},
		{"CountGivings", func(a, b []int, i, j int, s string) []any { return results(impl.CountGivings(a)) }},
		{"FirstGiving", func(a, b []int, i, j int, s string) []any { return results(impl.FirstGiving(a)) }},
		{"NextGiving", func(a, b []int, i, j int, s string) []any { return results(impl.NextGiving(a, b)) }},
		{"GivingOfRank", func(a, b []int, i, j int, s string) []any { return results(impl.GivingOfRank(a, i)) }},
		{"RankOfGiving", func(a, b []int, i, j int, s string) []any { return results(impl.RankOfGiving(a, b)) }},
		{"CountRings", func(a, b []int, i, j int, s string) []any { return results(impl.CountRings(a)) }},
		{"FirstRing", func(a, b []int, i, j int, s string) []any { return results(impl.FirstRing(a)) }},
		{"CountMutual", func(a, b []int, i, j int, s string) []any { return results(impl.CountMutual(a)) }},
		{"GiftsBetween", func(a, b []int, i, j int, s string) []any { return results(impl.GiftsBetween(a, b)) }},
		{"JoinFamilies", func(a, b []int, i, j int, s string) []any { return results(impl.JoinFamilies(a, i, j)) }},
		{"LeaveFamily", func(a, b []int, i, j int, s string) []any { return results(impl.LeaveFamily(a, i)) }},
		{"FamiliesText", func(a, b []int, i, j int, s string) []any { return results(impl.FamiliesText(a)) }},
		{"ParseFamilies", func(a, b []int, i, j int, s string) []any { return results(impl.ParseFamilies(s)) }},
	}
}

// boardCalls are the calls of all functions of chapter 3.
func boardCalls() []anyCall {
	return []anyCall{
		{"IsBoard", func(a, b []int, i, j int, s string) []any { return results(impl.IsBoard(s)) }},
		{"SideOf", func(a, b []int, i, j int, s string) []any { return results(impl.SideOf(s)) }},
		{"ForbiddenOf", func(a, b []int, i, j int, s string) []any { return results(impl.ForbiddenOf(s)) }},
		{"IsAllowed", func(a, b []int, i, j int, s string) []any { return results(impl.IsAllowed(s, a)) }},
		{"HitsOf", func(a, b []int, i, j int, s string) []any { return results(impl.HitsOf(s, a)) }},
		{"RookNumbers", func(a, b []int, i, j int, s string) []any { return results(impl.RookNumbers(s)) }},
		{"HitNumbers", func(a, b []int, i, j int, s string) []any { return results(impl.HitNumbers(s)) }},
		{"CountAllowed", func(a, b []int, i, j int, s string) []any { return results(impl.CountAllowed(s)) }},
		{"FirstAllowed", func(a, b []int, i, j int, s string) []any { return results(impl.FirstAllowed(s)) }},
		{"NextAllowed", func(a, b []int, i, j int, s string) []any { return results(impl.NextAllowed(s, a)) }},
		{"MostRooks", func(a, b []int, i, j int, s string) []any { return results(impl.MostRooks(s)) }},
		{"FewestLines", func(a, b []int, i, j int, s string) []any { return results(impl.FewestLines(s)) }},
		{"OtherBoard", func(a, b []int, i, j int, s string) []any { return results(impl.OtherBoard(s)) }},
		{"TurnedBoard", func(a, b []int, i, j int, s string) []any { return results(impl.TurnedBoard(s)) }},
		{"JoinBoards", func(a, b []int, i, j int, s string) []any { return results(impl.JoinBoards(s, s)) }},
		{"OwnBoard", func(a, b []int, i, j int, s string) []any { return results(impl.OwnBoard(i)) }},
		{"CoupleBoard", func(a, b []int, i, j int, s string) []any { return results(impl.CoupleBoard(i)) }},
		{"ForbidPlace", func(a, b []int, i, j int, s string) []any { return results(impl.ForbidPlace(s, i, j)) }},
		{"AllowPlace", func(a, b []int, i, j int, s string) []any { return results(impl.AllowPlace(s, i, j)) }},
	}
}

// tableCalls are the calls of all functions of chapter 4.
func tableCalls() []anyCall {
	return []anyCall{
		{"IsTable", func(a, b []int, i, j int, s string) []any { return results(impl.IsTable(a)) }},
		{"CouplesTogether", func(a, b []int, i, j int, s string) []any { return results(impl.CouplesTogether(a)) }},
		{"CouplesInRow", func(a, b []int, i, j int, s string) []any { return results(impl.CouplesInRow(a)) }},
		{"CountRound", func(a, b []int, i, j int, s string) []any { return results(impl.CountRound(i)) }},
		{"CountTogether", func(a, b []int, i, j int, s string) []any { return results(impl.CountTogether(i, j)) }},
		{"CountInRow", func(a, b []int, i, j int, s string) []any { return results(impl.CountInRow(i, j)) }},
		{"ChanceApart", func(a, b []int, i, j int, s string) []any { return results(impl.ChanceApart(i)) }},
		{"IsInTurn", func(a, b []int, i, j int, s string) []any { return results(impl.IsInTurn(a)) }},
		{"CountInTurn", func(a, b []int, i, j int, s string) []any { return results(impl.CountInTurn(i)) }},
		{"CountTurnTogether", func(a, b []int, i, j int, s string) []any { return results(impl.CountTurnTogether(i, j)) }},
		{"FirstApart", func(a, b []int, i, j int, s string) []any { return results(impl.FirstApart(i)) }},
		{"NextApart", func(a, b []int, i, j int, s string) []any { return results(impl.NextApart(a)) }},
		{"TurnTable", func(a, b []int, i, j int, s string) []any { return results(impl.TurnTable(a, i)) }},
		{"MirrorTable", func(a, b []int, i, j int, s string) []any { return results(impl.MirrorTable(a)) }},
		{"FirstTable", func(a, b []int, i, j int, s string) []any { return results(impl.FirstTable(a)) }},
		{"NeighboursOf", func(a, b []int, i, j int, s string) []any { return results(impl.NeighboursOf(a, i)) }},
		{"SwapsToPart", func(a, b []int, i, j int, s string) []any { return results(impl.SwapsToPart(a)) }},
	}
}

// seatCalls are the calls of all functions of chapter 5.
func seatCalls() []anyCall {
	return []anyCall{
		{"CanSeat", func(a, b []int, i, j int, s string) []any { return results(impl.CanSeat(i, a)) }},
		{"CountSeatings", func(a, b []int, i, j int, s string) []any { return results(impl.CountSeatings(i, j)) }},
		{"AllSeatings", func(a, b []int, i, j int, s string) []any { return results(impl.AllSeatings(i, j)) }},
		{"ChanceOfSeating", func(a, b []int, i, j int, s string) []any { return results(impl.ChanceOfSeating(i, a)) }},
		{"ChanceOwnSeat", func(a, b []int, i, j int, s string) []any { return results(impl.ChanceOwnSeat(i, j, j)) }},
		{"MeanOwnSeats", func(a, b []int, i, j int, s string) []any { return results(impl.MeanOwnSeats(i, j)) }},
		{"DisplacedIn", func(a, b []int, i, j int, s string) []any { return results(impl.DisplacedIn(a)) }},
		{"CountDisplaced", func(a, b []int, i, j int, s string) []any { return results(impl.CountDisplaced(i, j, j)) }},
		{"ChanceDisplaced", func(a, b []int, i, j int, s string) []any { return results(impl.ChanceDisplaced(i, j, j)) }},
		{"SeatBy", func(a, b []int, i, j int, s string) []any { return results(impl.SeatBy(i, j, a)) }},
		{"ChoicesOf", func(a, b []int, i, j int, s string) []any { return results(impl.ChoicesOf(i, a)) }},
		{"LikeliestSeatings", func(a, b []int, i, j int, s string) []any { return results(impl.LikeliestSeatings(i, j)) }},
	}
}

// drawerCalls are the calls of all functions of chapter 6, with plans of two guests.
func drawerCalls() []anyCall {
	return []anyCall{
		{"OpenedBy", func(a, b []int, i, j int, s string) []any { return results(impl.OpenedBy(a, i, j)) }},
		{"FindersOf", func(a, b []int, i, j int, s string) []any { return results(impl.FindersOf(a, i)) }},
		{"DoAllFind", func(a, b []int, i, j int, s string) []any { return results(impl.DoAllFind(a, i)) }},
		{"TriesToFind", func(a, b []int, i, j int, s string) []any { return results(impl.TriesToFind(a)) }},
		{"CountAllFind", func(a, b []int, i, j int, s string) []any { return results(impl.CountAllFind(i, j)) }},
		{"ChanceAllFind", func(a, b []int, i, j int, s string) []any { return results(impl.ChanceAllFind(i, j)) }},
		{"ChanceByLuck", func(a, b []int, i, j int, s string) []any { return results(impl.ChanceByLuck(i, j)) }},
		{"CountFinders", func(a, b []int, i, j int, s string) []any { return results(impl.CountFinders(i, j, j)) }},
		{"TriesForChance", func(a, b []int, i, j int, s string) []any { return results(impl.TriesForChance(i, j, j)) }},
		{"FirstLosing", func(a, b []int, i, j int, s string) []any { return results(impl.FirstLosing(i, j)) }},
		{"BestSwap", func(a, b []int, i, j int, s string) []any { return results(impl.BestSwap(a)) }},
		{"IsDrawerPlan", func(a, b []int, i, j int, s string) []any { return results(impl.IsDrawerPlan(i, [][]int{a, b})) }},
		{"ChainPlan", func(a, b []int, i, j int, s string) []any { return results(impl.ChainPlan(a, i)) }},
		{"PlanFinders", func(a, b []int, i, j int, s string) []any { return results(impl.PlanFinders(a, [][]int{b, a})) }},
		{"CountPlanWins", func(a, b []int, i, j int, s string) []any { return results(impl.CountPlanWins(2, [][]int{a, b})) }},
		{"ShiftDrawers", func(a, b []int, i, j int, s string) []any { return results(impl.ShiftDrawers(a, i)) }},
	}
}

// chainCalls are the calls of all functions of chapter 7.
func chainCalls() []anyCall {
	return []anyCall{
		{"TypeOf", func(a, b []int, i, j int, s string) []any { return results(impl.TypeOf(a)) }},
		{"CountType", func(a, b []int, i, j int, s string) []any { return results(impl.CountType(a)) }},
		{"TypesOf", func(a, b []int, i, j int, s string) []any { return results(impl.TypesOf(i)) }},
		{"FirstOfType", func(a, b []int, i, j int, s string) []any { return results(impl.FirstOfType(a)) }},
		{"CountByChains", func(a, b []int, i, j int, s string) []any { return results(impl.CountByChains(i, j)) }},
		{"CountLongest", func(a, b []int, i, j int, s string) []any { return results(impl.CountLongest(i, j)) }},
		{"CountShortest", func(a, b []int, i, j int, s string) []any { return results(impl.CountShortest(i, j)) }},
		{"MeanChains", func(a, b []int, i, j int, s string) []any { return results(impl.MeanChains(i)) }},
		{"MeanOfLength", func(a, b []int, i, j int, s string) []any { return results(impl.MeanOfLength(i, j)) }},
		{"ChanceLongest", func(a, b []int, i, j int, s string) []any { return results(impl.ChanceLongest(i, j)) }},
		{"CountPairsAlone", func(a, b []int, i, j int, s string) []any { return results(impl.CountPairsAlone(i)) }},
		{"TwiceType", func(a, b []int, i, j int, s string) []any { return results(impl.TwiceType(a)) }},
		{"CountRoots", func(a, b []int, i, j int, s string) []any { return results(impl.CountRoots(a)) }},
		{"FirstRoot", func(a, b []int, i, j int, s string) []any { return results(impl.FirstRoot(a)) }},
		{"TimesOfType", func(a, b []int, i, j int, s string) []any { return results(impl.TimesOfType(a)) }},
		{"CountByTimes", func(a, b []int, i, j int, s string) []any { return results(impl.CountByTimes(i, j)) }},
		{"GreatestTimes", func(a, b []int, i, j int, s string) []any { return results(impl.GreatestTimes(i)) }},
	}
}

// hatCalls are the calls of those functions of chapter 8 that take no hat plan.
func hatCalls() []anyCall {
	return []anyCall{
		{"SumPlan", func(a, b []int, i, j int, s string) []any { return results(impl.SumPlan(i, j)) }},
		{"SamePlan", func(a, b []int, i, j int, s string) []any { return results(impl.SamePlan(i, j, j-1)) }},
		{"BestLeast", func(a, b []int, i, j int, s string) []any { return results(impl.BestLeast(i, j)) }},
		{"RowGuesses", func(a, b []int, i, j int, s string) []any { return results(impl.RowGuesses(i, s)) }},
		{"RightInRow", func(a, b []int, i, j int, s string) []any { return results(impl.RightInRow(i, s)) }},
		{"HeardInRow", func(a, b []int, i, j int, s string) []any { return results(impl.HeardInRow(i, j, s, s)) }},
		{"ParseHatPlan", func(a, b []int, i, j int, s string) []any { return results(impl.ParseHatPlan(s)) }},
	}
}

// puzzleNumberCalls are the calls of those functions of chapter 9 that take no puzzle.
func puzzleNumberCalls() []anyCall {
	return []anyCall{
		{"IsClue", func(a, b []int, i, j int, s string) []any {
			return results(impl.IsClue(i, impl.Clue{Kind: j, A: i - 1}))
		}},
		{"DoesFit", func(a, b []int, i, j int, s string) []any { return results(impl.DoesFit(impl.Clue{Kind: i, A: j}, a)) }},
		{"MakePuzzle", func(a, b []int, i, j int, s string) []any { return results(impl.MakePuzzle(a, i, j)) }},
		{"ParsePuzzle", func(a, b []int, i, j int, s string) []any { return results(impl.ParsePuzzle(s)) }},
	}
}

// consoleCalls are the calls of all functions of chapter 10, with desks of the first list and the text, and with a line that has an effect.
func consoleCalls() []anyCall {
	return []anyCall{
		{"FirstDesk", func(a, b []int, i, j int, s string) []any { return results(impl.FirstDesk()) }},
		{"IsDesk", func(a, b []int, i, j int, s string) []any { return results(impl.IsDesk(impl.Desk{Coats: a, Board: s})) }},
		{"DeskLine", func(a, b []int, i, j int, s string) []any {
			return results(impl.DeskLine(impl.Desk{Coats: a, Board: s}, fmt.Sprint("swap ", i, " ", j)))
		}},
		{"RunScript", func(a, b []int, i, j int, s string) []any { return results(impl.RunScript(s)) }},
		{"DeskAfter", func(a, b []int, i, j int, s string) []any { return results(impl.DeskAfter(s)) }},
		{"FailedLines", func(a, b []int, i, j int, s string) []any { return results(impl.FailedLines(s)) }},
	}
}

func allCalls() []anyCall {
	return slices.Concat(coatCalls(), giftCalls(), boardCalls(), tableCalls(), seatCalls(), drawerCalls(), chainCalls(), hatCalls(), puzzleNumberCalls(), consoleCalls())
}

// listsAndText are what a call gets as its first list, as its second one and as its text.
type listsAndText struct {
	a, b []int
	s    string
}

// anyListsAndTexts are each list twice, families with exchanges of as many guests, givings among them, and boards with exchanges.
func anyListsAndTexts() []listsAndText {
	const text = "1,2,0,3"
	var all []listsAndText
	for _, list := range anyLists() {
		all = append(all, listsAndText{list, list, text})
	}
	all = append(all, listsAndText{[]int{0}, []int{0}, text}, listsAndText{[]int{0, 1}, []int{1, 0}, text}, listsAndText{[]int{0, 0, 1, 1}, []int{2, 3, 0, 1}, text},
		listsAndText{[]int{0, 0, 1, 1}, []int{3, 2, 1, 0}, text}, listsAndText{[]int{0, 0, 1, 1}, []int{1, 2, 0, 3}, text}, listsAndText{[]int{0, 0, 1, 2, 1}, []int{2, 3, 4, 0, 1}, text},
		listsAndText{[]int{0, 1, 2, 0, 1, 2, 0, 1, 2}, []int{1, 2, 3, 4, 5, 6, 7, 8, 0}, text}, listsAndText{inOrder(9), []int{8, 7, 6, 5, 3, 4, 2, 1, 0}, text})
	for _, b := range greaterBoards(1, 2, 3, 4, 8) {
		all = append(all, listsAndText{inOrder(sideOf(b)), nil, b}, listsAndText{backwards(sideOf(b)), nil, b})
	}
	return append(all, listsAndText{[]int{1, 0, 2}, nil, "##./.##/#.#"}, listsAndText{[]int{2, 0, 1}, nil, "##./.##/#.#"}, listsAndText{[]int{1, 0}, nil, "##./.##/#.#"})
}

// anyLists are exchanges, families, tables and types, and lists that are none of these.
func anyLists() [][]int {
	return append(slices.Concat(noExchanges, noFamilies, noTables(), longTables, noTypes, someTypes), []int{0}, []int{0, 1}, []int{1, 0}, []int{1, 2, 0}, []int{1, 2, 0, 3}, []int{3, 2, 1, 0},
		longChains, inOrder(12), backwards(12), []int{1, 0, 3, 2, 5, 4, 7, 6, 9, 8, 11, 10},
		[]int{0, 0, 1, 1}, []int{0, 0, 1}, []int{0, 1, 0, 2, 1}, []int{0, 0, 0, 0, 1, 1, 1, 1}, inOrder(9), make([]int, 9),
		[]int{0, 2, 1, 3}, []int{0, 2, 1, 4, 3, 5}, []int{5, 2, 0, 1, 3, 4}, inOrder(8), []int{0, 2, 1, 3, 4, 6, 5, 7}, []int{7, 5, 3, 1, 0, 2, 4, 6}, inOrder(10),
		[]int{3, 0, 0}, []int{6, 5, 4, 0})
}

// someTypes are types of one chain, of pairs and of single guests alone, and of chains of several lengths.
var someTypes = [][]int{{4}, {12}, {7}, {2, 1}, {2, 1, 1}, {2, 2}, {4, 3, 2, 2, 1}, {5, 4, 3}, {6, 6}, {2, 2, 2, 2, 2, 2}, slices.Repeat([]int{1}, 7), slices.Repeat([]int{1}, 12)}

var anyNumbers = []int{0, 1, 2, 3, 4, 7, 8, 11, 12, 13, 44, 176214840, 176214841, -1, -12, 1 << 31, 1 << 32, math.MaxInt, math.MinInt, math.MaxInt - 1}

func anyTexts() []string {
	return append(slices.Concat(noTexts, noFamilyTexts, noBoards(), greaterBoards(1, 2, 3, 8)), "0", "1,0", "1,2,0,3", textOf(longChains), textOf(backwards(12)),
		"01", "0011", "012345678", "000000000")
}

// tryCall makes a call and tells of a panic.
func tryCall(t *testing.T, c anyCall, a, b []int, i, j int, s string) (got []any) {
	t.Helper()
	defer func() {
		if p := recover(); p != nil {
			t.Errorf("%s panics at %v %v %d %d %q: %v", c.name, a, b, i, j, s, p)
		}
	}()
	return c.call(a, b, i, j, s)
}

// mustBeZero requires zero results beside a false.
func mustBeZero(t *testing.T, name string, got []any) {
	t.Helper()
	if len(got) > 0 && got[len(got)-1] == false {
		wantNothing(t, name, got...)
	}
}

func TestNoCallPanics(t *testing.T) {
	for _, c := range allCalls() {
		for _, list := range anyLists() {
			for _, other := range [][]int{nil, {0}, {1, 0}, {1, 2, 0, 3}, {3, 2, 1, 0}, backwards(9), inOrder(12), inOrder(13), list} {
				mustBeZero(t, c.name, tryCall(t, c, list, other, 0, 0, ""))
			}
			for _, i := range anyNumbers {
				for _, j := range anyNumbers {
					mustBeZero(t, c.name, tryCall(t, c, list, list, i, j, ""))
				}
			}
		}
		for _, text := range anyTexts() {
			mustBeZero(t, c.name, tryCall(t, c, nil, nil, 0, 0, text))
		}
	}
}

func TestNoBoardCallPanics(t *testing.T) {
	numbers := []int{0, 1, 7, 8, 9, -1, 1 << 32, math.MaxInt, math.MinInt}
	for _, c := range boardCalls() {
		for _, text := range append(noBoards(), greaterBoards(1, 2, 3, 4, 8)...) {
			for _, list := range anyLists() {
				mustBeZero(t, c.name, tryCall(t, c, list, nil, 0, 0, text))
			}
			for _, i := range numbers {
				for _, j := range numbers {
					mustBeZero(t, c.name, tryCall(t, c, nil, nil, i, j, text))
				}
			}
		}
	}
}

// TestNoCallOfThreeNumbersPanics has functions that take one number more than other calls.
func TestNoCallOfThreeNumbersPanics(t *testing.T) {
	for _, k := range anyNumbers {
		for _, c := range []anyCall{
			{"ChanceOwnSeat", func(a, b []int, i, j int, s string) []any { return results(impl.ChanceOwnSeat(i, j, k)) }},
			{"CountDisplaced", func(a, b []int, i, j int, s string) []any { return results(impl.CountDisplaced(i, j, k)) }},
			{"ChanceDisplaced", func(a, b []int, i, j int, s string) []any { return results(impl.ChanceDisplaced(i, j, k)) }},
			{"CountFinders", func(a, b []int, i, j int, s string) []any { return results(impl.CountFinders(i, j, k)) }},
			{"TriesForChance", func(a, b []int, i, j int, s string) []any { return results(impl.TriesForChance(i, j, k)) }},
			{"SamePlan", func(a, b []int, i, j int, s string) []any { return results(impl.SamePlan(i, j, k)) }},
		} {
			for _, i := range anyNumbers {
				for _, j := range anyNumbers {
					mustBeZero(t, c.name, tryCall(t, c, nil, nil, i, j, ""))
				}
			}
		}
	}
}

// fewNumbers are pairs of numbers for calls; by the second one there are seatings, of four guests with two lost tickets.
var fewNumbers = [][2]int{{1, 2}, {4, 2}}

const spare = 5

// roomy returns a list at the beginning of an array with room behind it, and this array.
func roomy(list []int, behind int) (part []int, whole []int) {
	whole = slices.Clone(list)
	for k := range spare {
		whole = append(whole, behind+k)
	}
	return whole[:len(list)], whole
}

// overwrite writes into all the memory of a result, that behind its length too.
func overwrite(got []any) {
	for _, list := range slicesOf(got) {
		fill(list)
	}
	for _, r := range got {
		switch p := r.(type) {
		case impl.HatPlan:
			fillTexts(p.Guesses)
		case impl.Puzzle:
			fillClues(p.Clues)
		case []string:
			fillTexts(p)
		}
	}
}

func fillClues(clues []impl.Clue) {
	clues = clues[:cap(clues)]
	for k := range clues {
		clues[k] = impl.Clue{Kind: -77, A: -77, B: -77}
	}
}

func fillTexts(texts []string) {
	texts = texts[:cap(texts)]
	for k := range texts {
		texts[k] = "written over"
	}
}

func fill(list []int) {
	list = list[:cap(list)]
	for k := range list {
		list[k] = -77
	}
}

// TestCallsKeepArguments looks at the arguments and the memory behind them, behind each call and behind writing into its results.
func TestCallsKeepArguments(t *testing.T) {
	for _, c := range allCalls() {
		for _, given := range anyListsAndTexts() {
			for _, numbers := range [][]int{{0, 1}, {4, 2}, {7, 3}, {12, 5}} {
				a, wholeA := roomy(given.a, 40)
				b, wholeB := roomy(given.b, 50)
				beforeA, beforeB := slices.Clone(wholeA), slices.Clone(wholeB)
				got := c.call(a, b, numbers[0], numbers[1], given.s)
				if !slices.Equal(wholeA, beforeA) || !slices.Equal(wholeB, beforeB) {
					t.Errorf("%s writes into %v", c.name, given)
				}
				overwrite(got)
				if !slices.Equal(wholeA, beforeA) || !slices.Equal(wholeB, beforeB) {
					t.Errorf("%s gives out memory of %v", c.name, given)
				}
			}
		}
	}
}

// TestCallsDependOnArgumentsAlone makes each call with other memory behind the lists, and once more after its results were written over.
func TestCallsDependOnArgumentsAlone(t *testing.T) {
	for _, c := range allCalls() {
		for _, given := range anyListsAndTexts() {
			for _, numbers := range fewNumbers {
				for _, behind := range []int{0, len(given.a), 90} {
					a, _ := roomy(given.a, behind)
					b, _ := roomy(given.b, behind)
					want := c.call(slices.Clip(slices.Clone(given.a)), slices.Clip(slices.Clone(given.b)), numbers[0], numbers[1], given.s)
					text := fmt.Sprint(want)
					overwrite(want)
					got := c.call(a, b, numbers[0], numbers[1], given.s)
					if fmt.Sprint(got) != text {
						t.Errorf("%s of %v %v: first %s, then %v", c.name, given, numbers, text, got)
					}
				}
			}
		}
	}
}

// TestResultsShareNoMemory writes over one slice of a result and looks at the others.
func TestResultsShareNoMemory(t *testing.T) {
	for _, c := range allCalls() {
		for _, given := range anyListsAndTexts() {
			for _, numbers := range fewNumbers {
				want := slicesOf(c.call(given.a, given.b, numbers[0], numbers[1], given.s))
				for k := range want {
					again := slicesOf(c.call(given.a, given.b, numbers[0], numbers[1], given.s))
					fill(again[k])
					again[k] = want[k]
					if !equalLists(again, want) {
						t.Errorf("slices of the result of %s of %v %v share memory", c.name, given, numbers)
					}
				}
			}
		}
	}
}

// planCall is a call with a plan, and with an exchange or the number of guests.
type planCall struct {
	name string
	call func(guests int, list []int, plan [][]int) []any
}

func planCalls() []planCall {
	return []planCall{
		{"IsDrawerPlan", func(guests int, list []int, plan [][]int) []any { return results(impl.IsDrawerPlan(guests, plan)) }},
		{"PlanFinders", func(guests int, list []int, plan [][]int) []any { return results(impl.PlanFinders(list, plan)) }},
		{"CountPlanWins", func(guests int, list []int, plan [][]int) []any { return results(impl.CountPlanWins(guests, plan)) }},
	}
}

// roomyPlan returns a plan at the beginning of an array of lists, which are at the beginnings of arrays themselves, and all of these.
func roomyPlan(plan [][]int, behind int) (part [][]int, whole [][]int) {
	for _, drawers := range plan {
		short, long := roomy(drawers, behind)
		part, whole = append(part, short), append(whole, long)
	}
	part = append(part, []int{behind}, []int{behind + 1})
	return part[:len(plan)], whole
}

// TestNoPlanCallPanics has lists that are exchanges or none, as drawers and as what is in the drawers.
func TestNoPlanCallPanics(t *testing.T) {
	var plans [][][]int
	for guests := 1; guests <= 9; guests++ {
		plans = append(plans, patternPlans(guests)...)
		plans = append(plans, noPlans(guests)...)
	}
	for _, list := range anyLists() {
		plans = append(plans, [][]int{list}, [][]int{{0}, list}, slices.Repeat([][]int{list}, len(list)))
	}
	for _, p := range planCalls() {
		c := anyCall{p.name, nil}
		for _, plan := range plans {
			for _, guests := range append([]int{5, 6, 9}, anyNumbers...) {
				c.call = func(a, b []int, i, j int, s string) []any {
					return p.call(guests, inOrder(max(0, min(guests, 40))), plan)
				}
				mustBeZero(t, c.name, tryCall(t, c, nil, nil, guests, len(plan), ""))
			}
			for _, list := range [][]int{nil, {1}, {0, 0}, {math.MaxInt, math.MinInt}, make([]int, len(plan)), slices.Repeat([]int{-1}, len(plan)), inOrder(len(plan) + 1)[1:]} {
				c.call = func(a, b []int, i, j int, s string) []any { return p.call(len(plan), list, plan) }
				mustBeZero(t, c.name, tryCall(t, c, list, nil, 0, 0, ""))
			}
		}
	}
}

// TestPlanCallsKeepArguments looks at a plan and the memory behind it and behind its lists, and makes the same call with other memory there.
func TestPlanCallsKeepArguments(t *testing.T) {
	for _, c := range planCalls() {
		for guests := 1; guests <= 7; guests++ {
			for _, given := range append(patternPlans(guests), noPlans(guests)...) {
				list := backwards(guests)
				var texts []string
				for _, behind := range []int{0, guests - 1, 90} {
					plan, whole := roomyPlan(given, behind)
					before := fmt.Sprint(whole, plan[:cap(plan)])
					got := c.call(guests, list, plan)
					texts = append(texts, fmt.Sprint(got))
					overwrite(got)
					if fmt.Sprint(whole, plan[:cap(plan)]) != before || !slices.Equal(list, backwards(guests)) {
						t.Errorf("%s writes into %v, or gives out its memory", c.name, given)
					}
				}
				if texts[0] != texts[1] || texts[0] != texts[2] {
					t.Errorf("%s of %v with other memory behind: %v", c.name, given, texts)
				}
			}
		}
	}
}

// slicesOf returns all lists of numbers that are in a result.
func slicesOf(got []any) [][]int {
	var all [][]int
	for _, r := range got {
		switch x := r.(type) {
		case []int:
			all = append(all, x)
		case [][]int:
			all = append(all, x...)
		case impl.Desk:
			all = append(all, x.Coats)
		}
	}
	return all
}

// TestTextsStay writes over what was read from a text and reads it again.
func TestTextsStay(t *testing.T) {
	for text, read := range map[string]func(string) ([]int, bool){"1,2,0,3": impl.ParseExchange, "0012": impl.ParseFamilies} {
		list, ok := read(text)
		want := slices.Clone(list)
		fill(list)
		again, fine := read(text)
		if !ok || !fine || !slices.Equal(again, want) {
			t.Errorf("%q is read as %v, then %v", text, want, again)
		}
	}
}
