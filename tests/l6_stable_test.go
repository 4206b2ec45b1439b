package tests

import (
	"slices"
	"testing"

	"loop.example/matchpolys/impl"
)

// wantNoPairing calls all functions of one pairing for which it is none.
func wantNoPairing(t *testing.T, what string, m impl.Market, p []int) {
	t.Helper()
	if impl.MarketPairing(m, p) {
		t.Errorf("MarketPairing of %s holds", what)
	}
	blocks, ok := impl.MarketBlocks(m, p)
	wantNoLists(t, "MarketBlocks of "+what, blocks, ok)
	if lefts, rights, ok := impl.MarketCost(m, p); ok || lefts != 0 || rights != 0 {
		t.Errorf("MarketCost of %s: got %d, %d, %v, want it to fail", what, lefts, rights, ok)
	}
}

// wantNotStable calls all functions of two stable pairings, of which one is none.
func wantNotStable(t *testing.T, what string, m impl.Market, p, q []int) {
	t.Helper()
	if impl.MarketAbove(m, p, q) {
		t.Errorf("MarketAbove of %s holds", what)
	}
	join, ok := impl.MarketJoin(m, p, q)
	wantNoList(t, "MarketJoin of "+what, join, ok)
	meet, ok := impl.MarketMeet(m, p, q)
	wantNoList(t, "MarketMeet of "+what, meet, ok)
}

func TestMarketNone(t *testing.T) {
	for what, m := range badMarkets() {
		if impl.MarketIn(m) {
			t.Errorf("MarketIn of %s holds", what)
		}
		left, ok := impl.MarketLeft(m)
		wantNoList(t, "MarketLeft of "+what, left, ok)
		right, ok := impl.MarketRight(m)
		wantNoList(t, "MarketRight of "+what, right, ok)
		all, ok := impl.MarketAll(m)
		wantNoLists(t, "MarketAll of "+what, all, ok)
		if turned, ok := impl.MarketTurned(m); ok || len(turned.Left) != 0 || len(turned.Right) != 0 {
			t.Errorf("MarketTurned of %s: got %v, %v, want it to fail", what, turned, ok)
		}
		for n := range membersMax + 2 {
			p := allPairings(n)[0]
			wantNoPairing(t, what, m, p)
			wantNotStable(t, what, m, p, p)
		}
	}
}

func TestMarketNoPairing(t *testing.T) {
	for _, m := range []impl.Market{roundMarket(1, 0), manyOf2, manyOf3, manyOf4, manyOf5, roundMarket(5, 0)} {
		stable := stableOf(m)[0]
		for what, p := range badOrders(len(m.Left)) {
			what = "a pairing that is " + what
			wantNoPairing(t, what, m, p)
			wantNotStable(t, what, m, p, stable)
			wantNotStable(t, what+", told as the second one", m, stable, p)
			wantNotStable(t, what+", told twice", m, p, p)
		}
	}
}

// TestMarketNotStable tells pairings that are not stable as the first one, as the second one and as both.
func TestMarketNotStable(t *testing.T) {
	unstable := 0
	for _, m := range sampleMarkets() {
		all := stableOf(m)
		for _, p := range allPairings(len(m.Left)) {
			if len(blockingOf(m, p)) == 0 {
				continue
			}
			unstable++
			wantNotStable(t, "first one not stable", m, p, all[0])
			wantNotStable(t, "second one not stable", m, all[len(all)-1], p)
			wantNotStable(t, "one that is not stable, twice", m, p, p)
		}
	}
	if unstable == 0 {
		t.Error("all pairings were stable")
	}
}

// TestMarketCases holds markets against pairings made by another program.
func TestMarketCases(t *testing.T) {
	rising := []int{0, 1, 2, 3, 4}
	mixedSide := [][]int{{2, 1, 0, 4, 3}, {4, 3, 2, 1, 0}, {0, 1, 2, 3, 4}, {4, 0, 1, 2, 3}, {3, 2, 1, 0, 4}}
	cases := []struct {
		what        string
		m           impl.Market
		left, right []int
		all         [][]int
	}{
		{"one of each", roundMarket(1, 0), []int{0}, []int{0}, [][]int{{0}}},
		{"two with two pairings", manyOf2, []int{0, 1}, []int{1, 0}, [][]int{{0, 1}, {1, 0}}},
		{"three with three pairings", manyOf3, []int{0, 1, 2}, []int{2, 0, 1}, [][]int{{0, 1, 2}, {1, 2, 0}, {2, 0, 1}}},
		{"three, the second one the best", impl.Market{Left: [][]int{{1, 0, 2}, {1, 2, 0}, {0, 1, 2}}, Right: [][]int{{1, 0, 2}, {2, 0, 1}, {0, 1, 2}}}, []int{1, 2, 0}, []int{2, 0, 1}, [][]int{{0, 2, 1}, {1, 2, 0}, {2, 0, 1}}},
		{"three, equal on the left", impl.Market{Left: equalSide(3, []int{0, 1, 2}), Right: [][]int{{2, 1, 0}, {0, 1, 2}, {1, 0, 2}}}, []int{1, 2, 0}, []int{1, 2, 0}, [][]int{{1, 2, 0}}},
		{"three, equal on the right", impl.Market{Left: [][]int{{2, 1, 0}, {2, 0, 1}, {2, 0, 1}}, Right: equalSide(3, []int{1, 2, 0})}, []int{1, 2, 0}, []int{1, 2, 0}, [][]int{{1, 2, 0}}},
		{"two of two", twoOf2, []int{0, 1, 2, 3}, []int{1, 0, 3, 2}, [][]int{{0, 1, 2, 3}, {0, 1, 3, 2}, {1, 0, 2, 3}, {1, 0, 3, 2}}},
		{"four with ten pairings", manyOf4, []int{0, 1, 2, 3}, []int{3, 2, 1, 0}, [][]int{{0, 1, 2, 3}, {0, 1, 3, 2}, {1, 0, 2, 3}, {1, 0, 3, 2}, {1, 3, 0, 2}, {2, 0, 3, 1}, {2, 3, 0, 1}, {2, 3, 1, 0}, {3, 2, 0, 1}, {3, 2, 1, 0}}},
		{"five in a ring", roundMarket(5, 1), []int{0, 1, 2, 3, 4}, []int{4, 0, 1, 2, 3}, [][]int{{0, 1, 2, 3, 4}, {1, 2, 3, 4, 0}, {2, 3, 4, 0, 1}, {3, 4, 0, 1, 2}, {4, 0, 1, 2, 3}}},
		{"five with one pairing", roundMarket(5, 0), rising, rising, [][]int{rising}},
		{"five, all equal", impl.Market{Left: equalSide(5, rising), Right: equalSide(5, rising)}, rising, rising, [][]int{rising}},
		{"five, equal on each side", impl.Market{Left: equalSide(5, []int{3, 1, 4, 0, 2}), Right: equalSide(5, []int{2, 0, 4, 1, 3})}, []int{1, 0, 3, 2, 4}, []int{1, 0, 3, 2, 4}, [][]int{{1, 0, 3, 2, 4}}},
		{"five, equal on the left", impl.Market{Left: equalSide(5, []int{1, 3, 0, 2, 4}), Right: mixedSide}, []int{3, 2, 0, 4, 1}, []int{3, 2, 0, 4, 1}, [][]int{{3, 2, 0, 4, 1}}},
		{"five, equal on the right", impl.Market{Left: mixedSide, Right: equalSide(5, []int{1, 3, 0, 2, 4})}, []int{2, 4, 1, 0, 3}, []int{2, 4, 1, 0, 3}, [][]int{{2, 4, 1, 0, 3}}},
		{"five, some sent away again and again", impl.Market{Left: [][]int{{0, 1, 2, 3, 4}, {0, 1, 2, 3, 4}, {1, 0, 2, 3, 4}, {2, 1, 0, 3, 4}, {3, 2, 1, 0, 4}}, Right: [][]int{{4, 3, 2, 1, 0}, {0, 1, 2, 3, 4}, {4, 3, 1, 2, 0}, {2, 4, 3, 1, 0}, {0, 1, 2, 3, 4}}}, []int{1, 4, 0, 2, 3}, []int{1, 4, 3, 0, 2}, [][]int{{1, 4, 0, 2, 3}, {1, 4, 3, 0, 2}}},
		{"five with sixteen pairings", manyOf5, []int{4, 1, 0, 3, 2}, []int{3, 4, 1, 2, 0}, [][]int{{0, 2, 1, 4, 3}, {0, 2, 3, 1, 4}, {0, 2, 3, 4, 1}, {0, 4, 1, 2, 3}, {0, 4, 3, 2, 1}, {2, 0, 1, 4, 3}, {2, 0, 3, 1, 4}, {2, 0, 3, 4, 1}, {2, 1, 0, 3, 4}, {2, 3, 0, 1, 4}, {2, 3, 0, 4, 1}, {3, 2, 1, 4, 0}, {3, 4, 1, 2, 0}, {4, 0, 3, 1, 2}, {4, 1, 0, 3, 2}, {4, 3, 0, 1, 2}}},
	}
	for _, c := range cases {
		left, ok := impl.MarketLeft(c.m)
		wantList(t, "MarketLeft of "+c.what, left, ok, c.left...)
		right, ok := impl.MarketRight(c.m)
		wantList(t, "MarketRight of "+c.what, right, ok, c.right...)
		all, ok := impl.MarketAll(c.m)
		wantLists(t, "MarketAll of "+c.what, all, ok, c.all...)
		if !impl.MarketIn(c.m) {
			t.Errorf("MarketIn of %s does not hold", c.what)
		}
	}
}

// TestMarketPairings holds pairings against what blocks them, and against their sums of places, made by hand.
func TestMarketPairings(t *testing.T) {
	rising := allPairings(5)[0]
	two := impl.Market{Left: equalSide(2, []int{0, 1}), Right: equalSide(2, []int{0, 1})}
	worst := roundMarket(5, 1)
	cases := []struct {
		what          string
		m             impl.Market
		p             []int
		lefts, rights int
		blocks        [][]int
	}{
		{"one of each", roundMarket(1, 0), []int{0}, 0, 0, nil},
		{"two, stable", two, []int{0, 1}, 1, 1, nil},
		{"two, crossed", two, []int{1, 0}, 1, 1, [][]int{{0, 0}}},
		{"two, just the left side likes others", manyOf2, []int{1, 0}, 2, 0, nil},
		{"two, just the right side likes others", manyOf2, []int{0, 1}, 0, 2, nil},
		{"three, one asks and none answers", manyOf3, []int{1, 2, 0}, 3, 3, nil},
		{"three, one pair", manyOf3, []int{0, 2, 1}, 3, 3, [][]int{{2, 0}}},
		{"three, another pair", manyOf3, []int{2, 1, 0}, 3, 3, [][]int{{0, 1}}},
		{"five, all have their best", roundMarket(5, 0), rising, 0, 0, nil},
		{"five, the left side has its best", worst, rising, 0, 20, nil},
		{"five, the right side has its best", worst, []int{4, 0, 1, 2, 3}, 20, 0, nil},
		// All have their worst, so each two that are no partners block.
		{"five, all have their worst", impl.Market{Left: roundMarket(5, 1).Right, Right: roundMarket(5, 1).Right}, rising, 20, 20, bothWays(5)},
	}
	for _, c := range cases {
		blocks, ok := impl.MarketBlocks(c.m, c.p)
		wantLists(t, "MarketBlocks of "+c.what, blocks, ok, c.blocks...)
		lefts, rights, ok := impl.MarketCost(c.m, c.p)
		if !ok || lefts != c.lefts || rights != c.rights {
			t.Errorf("MarketCost of %s: got %d, %d, %v, want %d, %d, true", c.what, lefts, rights, ok, c.lefts, c.rights)
		}
		if !impl.MarketPairing(c.m, c.p) {
			t.Errorf("MarketPairing of %s does not hold", c.what)
		}
	}
}

// bothWays returns all lists of two different numbers below another one, in order.
func bothWays(n int) [][]int {
	all := [][]int{}
	for a := range n {
		for b := range n {
			if a != b {
				all = append(all, []int{a, b})
			}
		}
	}
	return all
}

// TestMarketLattice holds two pairings against what is made of them, by hand: neither above the other one, one above, the same twice.
func TestMarketLattice(t *testing.T) {
	cases := []struct {
		what       string
		m          impl.Market
		p, q       []int
		above      bool
		join, meet []int
	}{
		{"one of each", roundMarket(1, 0), []int{0}, []int{0}, true, []int{0}, []int{0}},
		{"two, the best one first", manyOf2, []int{0, 1}, []int{1, 0}, true, []int{0, 1}, []int{1, 0}},
		{"two, the best one last", manyOf2, []int{1, 0}, []int{0, 1}, false, []int{0, 1}, []int{1, 0}},
		{"two, the best one twice", manyOf2, []int{0, 1}, []int{0, 1}, true, []int{0, 1}, []int{0, 1}},
		{"two, the worst one twice", manyOf2, []int{1, 0}, []int{1, 0}, true, []int{1, 0}, []int{1, 0}},
		{"three in a ring", manyOf3, []int{1, 2, 0}, []int{2, 0, 1}, true, []int{1, 2, 0}, []int{2, 0, 1}},
		{"three in a ring, the other way", manyOf3, []int{1, 2, 0}, []int{0, 1, 2}, false, []int{0, 1, 2}, []int{1, 2, 0}},
		{"two of two, neither above", twoOf2, []int{0, 1, 3, 2}, []int{1, 0, 2, 3}, false, []int{0, 1, 2, 3}, []int{1, 0, 3, 2}},
		{"two of two, neither above, the other way", twoOf2, []int{1, 0, 2, 3}, []int{0, 1, 3, 2}, false, []int{0, 1, 2, 3}, []int{1, 0, 3, 2}},
		{"two of two, one above", twoOf2, []int{0, 1, 3, 2}, []int{1, 0, 3, 2}, true, []int{0, 1, 3, 2}, []int{1, 0, 3, 2}},
		{"four, neither above", manyOf4, []int{1, 3, 0, 2}, []int{2, 0, 3, 1}, false, []int{1, 0, 3, 2}, []int{2, 3, 0, 1}},
		{"five, neither above", manyOf5, []int{2, 0, 1, 4, 3}, []int{0, 2, 3, 4, 1}, false, []int{2, 0, 3, 4, 1}, []int{0, 2, 1, 4, 3}},
	}
	for _, c := range cases {
		if got := impl.MarketAbove(c.m, c.p, c.q); got != c.above {
			t.Errorf("MarketAbove of %s is %v", c.what, got)
		}
		join, ok := impl.MarketJoin(c.m, c.p, c.q)
		wantList(t, "MarketJoin of "+c.what, join, ok, c.join...)
		meet, ok := impl.MarketMeet(c.m, c.p, c.q)
		wantList(t, "MarketMeet of "+c.what, meet, ok, c.meet...)
	}
}

// TestMarketsOfThree holds all markets of three against their stable pairings.
func TestMarketsOfThree(t *testing.T) {
	for _, m := range everyMarket(3) {
		all := stableOf(m)
		got, ok := impl.MarketAll(m)
		if !ok || !sameLists(got, all) {
			t.Errorf("MarketAll(%v) returned %v, %v, want %v, true", m, got, ok, all)
		}
		left, right := marketLeft(t, m), marketRight(t, m)
		for _, p := range all {
			if !isAbove(m, left, p) || !isAbove(m, p, right) {
				t.Errorf("MarketLeft(%v) is %v, MarketRight %v, and %v is stable", m, left, right, p)
			}
		}
	}
}

func TestPromise63(t *testing.T) {
	for _, m := range sampleMarkets() {
		if !impl.MarketIn(m) {
			t.Errorf("MarketIn(%v) does not hold", m)
		}
		all := marketAll(t, m)
		if want := stableOf(m); len(all) == 0 || !sameLists(all, want) {
			t.Errorf("MarketAll(%v) is %v, want %v", m, all, want)
		}
	}
}

func TestPromise64(t *testing.T) {
	for _, m := range sampleMarkets() {
		all := marketAll(t, m)
		for _, p := range allPairings(len(m.Left)) {
			if !impl.MarketPairing(m, p) {
				t.Errorf("MarketPairing(%v, %v) does not hold", m, p)
			}
			blocks := marketBlocks(t, m, p)
			if want := blockingOf(m, p); !sameLists(blocks, want) {
				t.Errorf("MarketBlocks(%v, %v) is %v, want %v", m, p, blocks, want)
			}
			if hasEdge(all, p) != (len(blocks) == 0) {
				t.Errorf("MarketAll(%v) is %v, and %v has %d that block", m, all, p, len(blocks))
			}
		}
	}
}

func TestPromise65(t *testing.T) {
	for _, m := range sampleMarkets() {
		turned := marketTurned(t, m)
		for _, p := range allPairings(len(m.Left)) {
			blocks, other := marketBlocks(t, m, p), marketBlocks(t, turned, toldBack(p))
			if len(blocks) != len(other) {
				t.Errorf("MarketBlocks(%v, %v) is %v, and turned %v", m, p, blocks, other)
			}
			for _, pair := range other {
				if !hasEdge(blocks, []int{pair[1], pair[0]}) {
					t.Errorf("MarketBlocks(%v, %v) is %v, and turned %v", m, p, blocks, other)
				}
			}
		}
	}
}

func TestPromise66(t *testing.T) {
	for _, m := range sampleMarkets() {
		left := marketLeft(t, m)
		if !impl.MarketPairing(m, left) || len(marketBlocks(t, m, left)) > 0 {
			t.Errorf("MarketLeft(%v) is %v, which is not stable", m, left)
			continue
		}
		for _, p := range stableOf(m) {
			if !impl.MarketAbove(m, left, p) || !isAbove(m, left, p) {
				t.Errorf("MarketLeft(%v) is %v, which is not above %v", m, left, p)
			}
		}
	}
}

func TestPromise67(t *testing.T) {
	for _, m := range sampleMarkets() {
		right := marketRight(t, m)
		for _, p := range stableOf(m) {
			if !impl.MarketAbove(m, p, right) || !isAbove(m, p, right) {
				t.Errorf("MarketRight(%v) is %v, and %v is not above it", m, right, p)
			}
		}
		if other := toldBack(marketLeft(t, marketTurned(t, m))); !slices.Equal(right, other) {
			t.Errorf("MarketRight(%v) is %v, and MarketLeft of the market turned, told back, %v", m, right, other)
		}
	}
}

func TestPromise68(t *testing.T) {
	var one, many int
	for _, m := range sampleMarkets() {
		all := marketAll(t, m)
		for i := 1; i < len(all); i++ {
			if slices.Compare(all[i-1], all[i]) >= 0 {
				t.Errorf("MarketAll(%v) has %v ahead of %v", m, all[i-1], all[i])
			}
		}
		left, right := marketLeft(t, m), marketRight(t, m)
		if slices.Equal(left, right) != (len(all) == 1) {
			t.Errorf("MarketAll(%v) is %v, MarketLeft %v, MarketRight %v", m, all, left, right)
		}
		if len(all) == 1 {
			one++
		} else {
			many++
		}
	}
	if one < 100 || many < 100 {
		t.Errorf("%d markets had one stable pairing, and %d more", one, many)
	}
}

func TestPromise69(t *testing.T) {
	neither := 0
	for _, m := range sampleMarkets() {
		all := stableOf(m)
		for _, p := range all {
			for _, q := range all {
				above := impl.MarketAbove(m, p, q)
				if above != isAbove(m, p, q) {
					t.Errorf("MarketAbove(%v, %v, %v) is %v", m, p, q, above)
				}
				if !above && !isAbove(m, q, p) {
					neither++
				}
				firstLefts, firstRights := marketCost(t, m, p)
				secondLefts, secondRights := marketCost(t, m, q)
				if above && (firstLefts > secondLefts || firstRights < secondRights) {
					t.Errorf("MarketAbove(%v, %v, %v) holds, with the sums %d, %d and %d, %d", m, p, q, firstLefts, firstRights, secondLefts, secondRights)
				}
			}
		}
	}
	if neither == 0 {
		t.Error("of all stable pairings, one was above the other one")
	}
}

func TestPromise70(t *testing.T) {
	for _, m := range sampleMarkets() {
		all := stableOf(m)
		for _, p := range all {
			for _, q := range all {
				join := marketJoin(t, m, p, q)
				if want, _ := joinOf(m, p, q); !slices.Equal(join, want) || !hasEdge(all, join) {
					t.Errorf("MarketJoin(%v, %v, %v) is %v, want %v", m, p, q, join, want)
				}
				if !impl.MarketAbove(m, join, p) || !impl.MarketAbove(m, join, q) {
					t.Errorf("MarketJoin(%v, %v, %v) is %v, which is not above both", m, p, q, join)
				}
				if other := marketJoin(t, m, q, p); !slices.Equal(join, other) {
					t.Errorf("MarketJoin(%v, %v, %v) is %v, and %v for both exchanged", m, p, q, join, other)
				}
			}
		}
	}
}

func TestPromise71(t *testing.T) {
	for _, m := range sampleMarkets() {
		all := stableOf(m)
		for _, p := range all {
			for _, q := range all {
				join, meet := marketJoin(t, m, p, q), marketMeet(t, m, p, q)
				if _, want := joinOf(m, p, q); !slices.Equal(meet, want) || !hasEdge(all, meet) {
					t.Errorf("MarketMeet(%v, %v, %v) is %v, want %v", m, p, q, meet, want)
				}
				if !impl.MarketAbove(m, p, meet) || !impl.MarketAbove(m, q, meet) {
					t.Errorf("MarketMeet(%v, %v, %v) is %v, and both are not above it", m, p, q, meet)
				}
				if again := marketMeet(t, m, p, join); !slices.Equal(again, p) {
					t.Errorf("MarketMeet(%v, %v, %v) is %v, with the join of %v and %v", m, p, join, again, p, q)
				}
				if again := marketJoin(t, m, p, meet); !slices.Equal(again, p) {
					t.Errorf("MarketJoin(%v, %v, %v) is %v, with the meet of %v and %v", m, p, meet, again, p, q)
				}
				wantSameSums(t, m, p, q, join, meet)
			}
		}
	}
}

// wantSameSums checks that join and meet have together the sums of places of both.
func wantSameSums(t *testing.T, m impl.Market, p, q, join, meet []int) {
	t.Helper()
	var sums [4][2]int
	for i, pairing := range [][]int{p, q, join, meet} {
		sums[i][0], sums[i][1] = marketCost(t, m, pairing)
	}
	for side := range 2 {
		if sums[0][side]+sums[1][side] != sums[2][side]+sums[3][side] {
			t.Errorf("%v: the sums of places of %v, %v, their join %v and their meet %v are %v", m, p, q, join, meet, sums)
		}
	}
}

func TestPromise72(t *testing.T) {
	for _, m := range sampleMarkets() {
		turned := marketTurned(t, m)
		if !sameLists(turned.Left, m.Right) || !sameLists(turned.Right, m.Left) {
			t.Errorf("MarketTurned(%v) is %v", m, turned)
		}
		if again := marketTurned(t, turned); !sameMarket(again, m) {
			t.Errorf("MarketTurned(%v) leads back to %v", m, again)
		}
		if all, other := marketAll(t, m), marketAll(t, turned); len(all) != len(other) {
			t.Errorf("MarketAll(%v) has %d pairings, and %d turned", m, len(all), len(other))
		}
	}
}

func TestPromise73(t *testing.T) {
	unlike := 0
	for _, m := range sampleMarkets() {
		turned := marketTurned(t, m)
		for _, p := range allPairings(len(m.Left)) {
			lefts, rights := marketCost(t, m, p)
			wantLefts, wantRights := placesOf(m, p)
			if lefts != wantLefts || rights != wantRights {
				t.Errorf("MarketCost(%v, %v) is %d, %d, want %d, %d", m, p, lefts, rights, wantLefts, wantRights)
			}
			otherLefts, otherRights := marketCost(t, turned, toldBack(p))
			if otherLefts != rights || otherRights != lefts {
				t.Errorf("MarketCost(%v, %v) is %d, %d, and turned %d, %d", m, p, lefts, rights, otherLefts, otherRights)
			}
			if lefts != rights {
				unlike++
			}
		}
	}
	if unlike == 0 {
		t.Error("all pairings had the same sum on both sides")
	}
}
