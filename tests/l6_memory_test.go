package tests

import (
	"fmt"
	"slices"
	"testing"

	"loop.example/matchpolys/impl"
)

// marketArguments are markets, such with equal rankings on one side and on both, and some that are none.
func marketArguments() []impl.Market {
	two, three := equalSide(2, []int{1, 0}), equalSide(3, []int{2, 0, 1})
	return []impl.Market{
		roundMarket(1, 0), manyOf2, manyOf3, manyOf4, manyOf5, twoOf2, roundMarket(5, 0),
		{Left: three, Right: three},
		{Left: two, Right: two},
		{Left: manyOf3.Left, Right: three},
		{Left: three, Right: manyOf3.Right},
		{},
		{Left: two},
		{Left: three, Right: two},
		{Left: [][]int{{0, 1}, {0, 0}}, Right: two},
		{Left: two, Right: [][]int{{0, 1}, {0, 2}}},
	}
}

// sharedMarkets are markets as they are told, without a copy: rankings and sides that have the same memory stay such.
func sharedMarkets() []impl.Market {
	row := []int{2, 0, 1}
	rows := [][]int{row, row, row}
	return []impl.Market{{Left: rows, Right: rows}, {Left: rows, Right: [][]int{row, row, row}}, {Left: [][]int{row, {1, 0, 2}, row}, Right: rows}}
}

// marketPairings are lists that are no pairings of most markets, and, of a market, all stable pairings and the first one of all.
func marketPairings(m impl.Market) [][]int {
	lists := [][]int{{}, {0, 0}, {1, 0}, {0, 1, 2}}
	if impl.MarketIn(m) {
		lists = append(lists, stableOf(m)...)
		lists = append(lists, allPairings(len(m.Left))[0])
	}
	return lists
}

// listIsNew spoils a result with all the room that it has, and looks at the arguments and at the next result.
func listIsNew(t *testing.T, what string, unchanged func(), call func() ([]int, bool)) {
	t.Helper()
	first, ok := call()
	unchanged()
	want := slices.Clone(first)
	spoil(first)
	unchanged()
	if again, fine := call(); fine != ok || !slices.Equal(again, want) {
		t.Errorf("%s returned %v, and then %v", what, want, again)
	}
}

func TestMarketBestAreNew(t *testing.T) {
	calls := map[string]func(impl.Market) ([]int, bool){"MarketLeft": impl.MarketLeft, "MarketRight": impl.MarketRight}
	for what, call := range calls {
		for _, told := range marketArguments() {
			m, unchanged := spreadMarket(t, what, told)
			listIsNew(t, what, unchanged, func() ([]int, bool) { return call(m) })
		}
	}
}

func TestMarketAllIsNew(t *testing.T) {
	for _, told := range marketArguments() {
		m, unchanged := spreadMarket(t, "MarketAll", told)
		listsAreNew(t, "MarketAll", unchanged, func() ([][]int, bool) { return impl.MarketAll(m) })
	}
}

func TestMarketBlocksAreNew(t *testing.T) {
	for _, told := range marketArguments() {
		for _, list := range marketPairings(told) {
			m, sameMarket := spreadMarket(t, "MarketBlocks", told)
			p, samePairing := spread(t, "MarketBlocks", list)
			unchanged := func() {
				t.Helper()
				sameMarket()
				samePairing()
			}
			listsAreNew(t, "MarketBlocks", unchanged, func() ([][]int, bool) { return impl.MarketBlocks(m, p) })
		}
	}
}

// TestMarketLatticeIsNew makes join and meet of two pairings in memory of their own, and of one in the same memory.
func TestMarketLatticeIsNew(t *testing.T) {
	calls := map[string]func(m impl.Market, p, q []int) ([]int, bool){"MarketJoin": impl.MarketJoin, "MarketMeet": impl.MarketMeet}
	for what, call := range calls {
		for _, told := range marketArguments() {
			for _, first := range marketPairings(told) {
				for _, second := range marketPairings(told) {
					m, sameMarket := spreadMarket(t, what, told)
					p, sameFirst := spread(t, what+", first", first)
					q, sameSecond := spread(t, what+", second", second)
					unchanged := func() {
						t.Helper()
						sameMarket()
						sameFirst()
						sameSecond()
					}
					listIsNew(t, what, unchanged, func() ([]int, bool) { return call(m, p, q) })
					listIsNew(t, what+" of the same list", unchanged, func() ([]int, bool) { return call(m, p, p) })
				}
			}
		}
	}
}

// TestMarketRankingsAsPairings tells rankings of the market itself as pairings.
func TestMarketRankingsAsPairings(t *testing.T) {
	for _, told := range []impl.Market{manyOf2, manyOf3, roundMarket(5, 0), roundMarket(5, 1)} {
		m, unchanged := spreadMarket(t, "a market", told)
		p, q := m.Left[0], m.Left[len(m.Left)-1]
		listIsNew(t, "MarketJoin", unchanged, func() ([]int, bool) { return impl.MarketJoin(m, p, q) })
		listIsNew(t, "MarketMeet", unchanged, func() ([]int, bool) { return impl.MarketMeet(m, p, q) })
		listsAreNew(t, "MarketBlocks", unchanged, func() ([][]int, bool) { return impl.MarketBlocks(m, q) })
	}
}

// turnedLists tells the rankings of both sides of a market turned as one list.
func turnedLists(m impl.Market) ([][]int, bool) {
	turned, ok := impl.MarketTurned(m)
	return slices.Concat(turned.Left, turned.Right), ok
}

func TestMarketTurnedIsNew(t *testing.T) {
	for _, told := range marketArguments() {
		m, unchanged := spreadMarket(t, "MarketTurned", told)
		listsAreNew(t, "MarketTurned", unchanged, func() ([][]int, bool) { return turnedLists(m) })
		first, _ := impl.MarketTurned(m)
		second, _ := impl.MarketTurned(m)
		want := cloneMarket(first)
		spoilLists(first.Left)
		unchanged()
		if !sameLists(first.Right, want.Right) || !sameMarket(second, want) {
			t.Errorf("MarketTurned(%v): to change the left side made %v of %v", told, first.Right, want.Right)
		}
		spoilLists(second.Right)
		unchanged()
		if !sameLists(second.Left, want.Left) {
			t.Errorf("MarketTurned(%v): to change the right side made %v of %v", told, second.Left, want.Left)
		}
	}
}

// TestMarketTurnedOfSharedRankings turns markets whose rankings have the same memory: the rankings of the result may not.
func TestMarketTurnedOfSharedRankings(t *testing.T) {
	for _, m := range sharedMarkets() {
		want := cloneMarket(m)
		unchanged := func() {
			t.Helper()
			if !sameMarket(m, want) {
				t.Errorf("the market %v became %v", want, m)
			}
		}
		listsAreNew(t, "MarketTurned", unchanged, func() ([][]int, bool) { return turnedLists(m) })
	}
}

// marketAnswers is all that is told of a market and two lists.
func marketAnswers(m impl.Market, p, q []int) string {
	left, leftOK := impl.MarketLeft(m)
	right, rightOK := impl.MarketRight(m)
	all, allOK := impl.MarketAll(m)
	turned, turnedOK := impl.MarketTurned(m)
	blocks, blocksOK := impl.MarketBlocks(m, p)
	join, joinOK := impl.MarketJoin(m, p, q)
	meet, meetOK := impl.MarketMeet(m, p, q)
	lefts, rights, costOK := impl.MarketCost(m, p)
	return fmt.Sprint(impl.MarketIn(m), left, leftOK, right, rightOK, all, allOK, turned, turnedOK) +
		fmt.Sprint(impl.MarketPairing(m, p), blocks, blocksOK, impl.MarketAbove(m, p, q), join, joinOK, meet, meetOK, lefts, rights, costOK)
}

// TestMarketsStay looks at the arguments of all functions, of those that return no list, too.
func TestMarketsStay(t *testing.T) {
	markets := slices.Concat(marketArguments(), sampleMarkets()[:60])
	for _, m := range badMarkets() {
		markets = append(markets, m)
	}
	for _, told := range markets {
		m, sameMarket := spreadMarket(t, "a market", told)
		for _, list := range marketPairings(told) {
			p, sameFirst := spread(t, "a pairing", list)
			q, sameSecond := spread(t, "a second pairing", []int{1, 0, 2})
			marketAnswers(m, p, q)
			marketAnswers(m, q, p)
			marketAnswers(m, p, p)
			sameMarket()
			sameFirst()
			sameSecond()
		}
	}
}

// TestMarketsKeepNothing asks the same of many markets, ahead and back again, with such that are none between.
func TestMarketsKeepNothing(t *testing.T) {
	type question struct {
		m    impl.Market
		p, q []int
	}
	var questions []question
	for _, m := range slices.Concat(sampleMarkets(), marketArguments()) {
		lists := marketPairings(m)
		questions = append(questions, question{m, lists[len(lists)-1], lists[0]}, question{m, lists[len(lists)/2], lists[max(0, len(lists)-2)]})
	}
	var first []string
	for _, q := range questions {
		first = append(first, marketAnswers(q.m, q.p, q.q))
	}
	for i := len(questions) - 1; i >= 0; i-- {
		q := questions[i]
		if got := marketAnswers(q.m, q.p, q.q); got != first[i] {
			t.Errorf("of %v, %v and %v was told %s, and then %s", q.m, q.p, q.q, first[i], got)
		}
	}
}
