package tests

import (
	"slices"
	"testing"

	"loop.example/matchpolys/impl"
)

// membersMax is the greatest number of members of a side, as the document tells it.
const membersMax = 5

// allPairings returns all orders of n numbers, in the order of lists.
func allPairings(n int) [][]int {
	var all [][]int
	for _, o := range orders(n) {
		all = append(all, o.columns)
	}
	slices.SortFunc(all, slices.Compare[[]int])
	return all
}

// isAhead reports whether a ranking has one member ahead of another one.
func isAhead(ranking []int, one, other int) bool {
	return slices.Index(ranking, one) < slices.Index(ranking, other)
}

// toldBack tells a pairing from the other side.
func toldBack(p []int) []int {
	back := []int{}
	for right := range p {
		back = append(back, slices.Index(p, right))
	}
	return back
}

// blockingOf returns all that block a pairing, by the rankings themselves.
func blockingOf(m impl.Market, p []int) [][]int {
	blocks := [][]int{}
	for left := range m.Left {
		for right := range m.Right {
			if isAhead(m.Left[left], right, p[left]) && isAhead(m.Right[right], left, slices.Index(p, right)) {
				blocks = append(blocks, []int{left, right})
			}
		}
	}
	return blocks
}

// stableOf returns all stable pairings, in order.
func stableOf(m impl.Market) [][]int {
	return slices.DeleteFunc(allPairings(len(m.Left)), func(p []int) bool { return len(blockingOf(m, p)) > 0 })
}

// isAbove reports whether no member of the left side has a worse one in the first pairing.
func isAbove(m impl.Market, p, q []int) bool {
	for left, ranking := range m.Left {
		if isAhead(ranking, q[left], p[left]) {
			return false
		}
	}
	return true
}

// joinOf returns the better ones of two pairings for the left side, and the worse ones.
func joinOf(m impl.Market, p, q []int) (better, worse []int) {
	for left, ranking := range m.Left {
		first, second := p[left], q[left]
		if isAhead(ranking, second, first) {
			first, second = second, first
		}
		better = append(better, first)
		worse = append(worse, second)
	}
	return better, worse
}

// placesOf returns the sums of the places of all partners, of the left side and of the right one.
func placesOf(m impl.Market, p []int) (lefts, rights int) {
	for left, right := range p {
		lefts += slices.Index(m.Left[left], right)
		rights += slices.Index(m.Right[right], left)
	}
	return lefts, rights
}

func sameMarket(a, b impl.Market) bool {
	return sameLists(a.Left, b.Left) && sameLists(a.Right, b.Right)
}

func cloneMarket(m impl.Market) impl.Market {
	return impl.Market{Left: cloneLists(m.Left), Right: cloneLists(m.Right)}
}

// besideMarket returns two markets as one, in which all rank those of their own market first.
func besideMarket(first, second impl.Market) impl.Market {
	n, k := len(first.Left), len(second.Left)
	beside := func(a, b [][]int) [][]int {
		var side [][]int
		for _, ranking := range a {
			list := slices.Clone(ranking)
			for other := range k {
				list = append(list, n+other)
			}
			side = append(side, list)
		}
		for _, ranking := range b {
			list := []int{}
			for _, other := range ranking {
				list = append(list, n+other)
			}
			for other := range n {
				list = append(list, other)
			}
			side = append(side, list)
		}
		return side
	}
	return impl.Market{Left: beside(first.Left, second.Left), Right: beside(first.Right, second.Right)}
}

// Markets of 2 to 5 with many stable pairings, 2, 3, 10 and 16 of them, and one of two of 2 beside each other.
var (
	manyOf2 = impl.Market{Left: [][]int{{0, 1}, {1, 0}}, Right: [][]int{{1, 0}, {0, 1}}}
	manyOf3 = impl.Market{
		Left:  [][]int{{0, 1, 2}, {1, 2, 0}, {2, 0, 1}},
		Right: [][]int{{1, 2, 0}, {2, 0, 1}, {0, 1, 2}},
	}
	manyOf4 = impl.Market{
		Left:  [][]int{{0, 1, 2, 3}, {1, 0, 3, 2}, {2, 3, 0, 1}, {3, 2, 1, 0}},
		Right: [][]int{{3, 2, 1, 0}, {2, 3, 0, 1}, {1, 0, 3, 2}, {0, 1, 2, 3}},
	}
	manyOf5 = impl.Market{
		Left:  [][]int{{4, 2, 1, 0, 3}, {1, 3, 0, 2, 4}, {0, 4, 3, 1, 2}, {3, 1, 4, 0, 2}, {2, 4, 1, 3, 0}},
		Right: [][]int{{4, 0, 1, 3, 2}, {2, 4, 3, 1, 0}, {3, 1, 0, 4, 2}, {0, 4, 2, 1, 3}, {1, 3, 4, 0, 2}},
	}
	twoOf2 = besideMarket(manyOf2, manyOf2)
)

// roundMarket returns the market in which each member ranks those of the other side in a ring, the left one i from i on, and the right one from a number more on.
func roundMarket(n, more int) impl.Market {
	ring := func(from int) []int {
		list := []int{}
		for i := range n {
			list = append(list, (from+i)%n)
		}
		return list
	}
	var m impl.Market
	for i := range n {
		m.Left = append(m.Left, ring(i))
		m.Right = append(m.Right, ring(i+more))
	}
	return m
}

// equalSide returns a side on which all n members have the same ranking, each one in memory of its own.
func equalSide(n int, ranking []int) [][]int {
	side := [][]int{}
	for range n {
		side = append(side, slices.Clone(ranking))
	}
	return side
}

// everySide returns all sides of n members.
func everySide(n int) [][][]int {
	sides := [][][]int{{}}
	for range n {
		var longer [][][]int
		for _, side := range sides {
			for _, ranking := range allPairings(n) {
				longer = append(longer, append(slices.Clone(side), ranking))
			}
		}
		sides = longer
	}
	return sides
}

// everyMarket returns all markets of n members.
func everyMarket(n int) []impl.Market {
	var markets []impl.Market
	sides := everySide(n)
	for _, left := range sides {
		for _, right := range sides {
			markets = append(markets, impl.Market{Left: left, Right: right})
		}
	}
	return markets
}

// drawnSide returns a side of n members with rankings that are drawn.
func drawnSide(n int, draw func(below int) int) [][]int {
	side := [][]int{}
	for range n {
		list := []int{}
		for member := range n {
			list = slices.Insert(list, draw(member+1), member)
		}
		side = append(side, list)
	}
	return side
}

// nearMarkets returns all markets that are another one but for two members, one behind the other one in one ranking, that are exchanged.
func nearMarkets(m impl.Market) []impl.Market {
	var near []impl.Market
	for member := range m.Left {
		for place := 1; place < len(m.Left); place++ {
			onLeft, onRight := cloneMarket(m), cloneMarket(m)
			for _, list := range [][]int{onLeft.Left[member], onRight.Right[member]} {
				list[place-1], list[place] = list[place], list[place-1]
			}
			near = append(near, onLeft, onRight)
		}
	}
	return near
}

// sampleMarkets returns all markets of 1 and 2, and of 3 to 5 such with many stable pairings, with all rankings of a side equal, and drawn ones.
func sampleMarkets() []impl.Market {
	markets := append(everyMarket(1), everyMarket(2)...)
	many := []impl.Market{manyOf3, manyOf4, manyOf5, twoOf2, besideMarket(manyOf2, manyOf3), besideMarket(manyOf4, roundMarket(1, 0))}
	for _, m := range many {
		markets = append(append(markets, m), nearMarkets(m)...)
	}
	draw := drawer(6)
	for n := 3; n <= membersMax; n++ {
		for more := range n {
			markets = append(markets, roundMarket(n, more))
		}
		for range 12 {
			first, second := equalSide(n, drawnSide(n, draw)[0]), equalSide(n, drawnSide(n, draw)[0])
			other := drawnSide(n, draw)
			markets = append(markets, impl.Market{Left: first, Right: second}, impl.Market{Left: first, Right: other}, impl.Market{Left: other, Right: second})
		}
		for range 60 {
			markets = append(markets, impl.Market{Left: drawnSide(n, draw), Right: drawnSide(n, draw)})
		}
	}
	return markets
}

// badOrders returns lists that are no orders of n numbers, by what is wrong with them.
func badOrders(n int) map[string][]int {
	const far, least = 1 << 62, -1 << 63
	all := allPairings(n)[0]
	with := func(place, number int) []int {
		list := slices.Clone(all)
		list[place] = number
		return list
	}
	bad := map[string][]int{
		"nil":                         nil,
		"empty":                       {},
		"too short":                   all[:n-1],
		"too short, the first left":   all[1:],
		"too long":                    append(slices.Clone(all), n),
		"too long, the last twice":    append(slices.Clone(all), n-1),
		"too long, a negative number": append(slices.Clone(all), -1),
		"told twice":                  slices.Repeat(all, 2),
		"very long":                   slices.Repeat(all, 1000),
	}
	for name, number := range map[string]int{"n": n, "-1": -1, "-n": -n, "63": 63, "64": 64, "a far number": far, "the least number": least, "the greatest number": -(least + 1), "32 bits more": 1 << 32} {
		bad[name+" first"] = with(0, number)
		bad[name+" last"] = with(n-1, number)
		bad[name+" between"] = with(n/2, number)
	}
	if n > 1 {
		bad["the first one twice"] = with(n-1, 0)
		bad["the last one twice"] = with(0, n-1)
		bad["one twice, side by side"] = with(1, 0)
		bad["the first one alone"] = repeated(0, n)
		bad["counted from 1"] = append(slices.Clone(all[1:]), n)
	}
	return bad
}

// badLengths returns lists of rankings that are no markets as a side has no members, too many, or not as many as the other one.
func badLengths() map[string]impl.Market {
	side := func(members, others int) [][]int { return equalSide(members, allPairings(others)[0]) }
	bad := map[string]impl.Market{
		"nothing":                      {},
		"no members":                   {Left: [][]int{}, Right: [][]int{}},
		"no left members":              {Right: side(1, 1)},
		"no right members":             {Left: side(1, 1)},
		"no left members, empty":       {Left: [][]int{}, Right: side(2, 2)},
		"no right members, empty":      {Left: side(2, 2), Right: [][]int{}},
		"a left one who ranks nobody":  {Left: side(1, 0), Right: [][]int{}},
		"a right one who ranks nobody": {Left: [][]int{}, Right: side(1, 0)},
		"one of each, ranking nobody":  {Left: side(1, 0), Right: side(1, 0)},
		"6 of each":                    {Left: side(6, 6), Right: side(6, 6)},
		"7 of each":                    {Left: side(7, 7), Right: side(7, 7)},
		"6 of each, ranking 5":         {Left: side(6, 5), Right: side(6, 5)},
		"5 of each, ranking 6":         {Left: side(5, 6), Right: side(5, 6)},
		"6 of each, all empty":         {Left: side(6, 0), Right: side(6, 0)},
		"very many":                    {Left: side(3000, 5), Right: side(3000, 5)},
	}
	for name, n := range map[string][2]int{"1 and 2": {1, 2}, "4 and 5": {4, 5}, "5 and 6": {5, 6}, "2 and 5": {2, 5}, "3 and 1": {3, 1}, "6 and 5": {6, 5}, "5 and 3": {5, 3}} {
		bad[name] = impl.Market{Left: side(n[0], n[1]), Right: side(n[1], n[0])}
		bad[name+", ranking as many as on their own side"] = impl.Market{Left: side(n[0], n[0]), Right: side(n[1], n[1])}
		bad[name+", ranking as many as on the left side"] = impl.Market{Left: side(n[0], n[0]), Right: side(n[1], n[0])}
		bad[name+", ranking as many as on the right side"] = impl.Market{Left: side(n[0], n[1]), Right: side(n[1], n[1])}
	}
	return bad
}

// badMarkets returns what is no market, by what is wrong with it: the lengths, or just one ranking.
func badMarkets() map[string]impl.Market {
	bad := badLengths()
	for _, good := range []impl.Market{roundMarket(1, 0), manyOf2, manyOf3, manyOf5} {
		n := len(good.Left)
		for what, list := range badOrders(n) {
			for _, member := range []int{0, n / 2, n - 1} {
				name := string(rune('0'+n)) + " of each, the ranking of " + string(rune('0'+member)) + " "
				onLeft, onRight := cloneMarket(good), cloneMarket(good)
				onLeft.Left[member], onRight.Right[member] = list, list
				bad[name+"on the left "+what], bad[name+"on the right "+what] = onLeft, onRight
			}
		}
	}
	return bad
}

// spreadMarket returns a copy of a market with room behind each list, and a check that nothing of it has changed.
func spreadMarket(t *testing.T, what string, m impl.Market) (impl.Market, func()) {
	t.Helper()
	left, sameLeft := spreadLists(t, what+", left", m.Left)
	right, sameRight := spreadLists(t, what+", right", m.Right)
	return impl.Market{Left: left, Right: right}, func() {
		t.Helper()
		sameLeft()
		sameRight()
	}
}

func marketAll(t *testing.T, m impl.Market) [][]int {
	t.Helper()
	return must[[][]int](t, "MarketAll")(impl.MarketAll(m))
}

func marketBlocks(t *testing.T, m impl.Market, p []int) [][]int {
	t.Helper()
	return must[[][]int](t, "MarketBlocks")(impl.MarketBlocks(m, p))
}

func marketLeft(t *testing.T, m impl.Market) []int {
	t.Helper()
	return must[[]int](t, "MarketLeft")(impl.MarketLeft(m))
}

func marketRight(t *testing.T, m impl.Market) []int {
	t.Helper()
	return must[[]int](t, "MarketRight")(impl.MarketRight(m))
}

func marketJoin(t *testing.T, m impl.Market, p, q []int) []int {
	t.Helper()
	return must[[]int](t, "MarketJoin")(impl.MarketJoin(m, p, q))
}

func marketMeet(t *testing.T, m impl.Market, p, q []int) []int {
	t.Helper()
	return must[[]int](t, "MarketMeet")(impl.MarketMeet(m, p, q))
}

func marketTurned(t *testing.T, m impl.Market) impl.Market {
	t.Helper()
	return must[impl.Market](t, "MarketTurned")(impl.MarketTurned(m))
}

func marketCost(t *testing.T, m impl.Market, p []int) (lefts, rights int) {
	t.Helper()
	lefts, rights, ok := impl.MarketCost(m, p)
	if !ok {
		t.Errorf("MarketCost(%v, %v) fails", m, p)
	}
	return lefts, rights
}
