package tests

import (
	"slices"
	"testing"

	"loop.example/matchpolys/impl"
)

// wantNoChoice checks that a function failed, with zero values beside the false.
func wantNoChoice(t *testing.T, what string, p []int, number int, ok bool) {
	t.Helper()
	wantNoList(t, what, p, ok)
	wantNoNumber(t, what, number, ok)
}

// wantChoice checks a choice and a number that a function returned with true.
func wantChoice(t *testing.T, what string, p []int, number int, ok bool, want []int, wantedNumber int) {
	t.Helper()
	wantList(t, what, p, ok, want...)
	wantNumber(t, what, number, ok, wantedNumber)
}

func TestCostNone(t *testing.T) {
	for what, c := range badCosts() {
		if impl.CostIn(c) {
			t.Errorf("CostIn of %s holds", what)
		}
		for n := range rowsMax + 2 {
			cost, ok := impl.CostOf(c, allPairings(n)[0])
			wantNoNumber(t, "CostOf of "+what, cost, ok)
			if impl.CostFit(c, repeated(-priceMax, 2*n)) {
				t.Errorf("CostFit of %s and %d prices holds", what, 2*n)
			}
		}
		p, cost, ok := impl.CostLeast(c)
		wantNoChoice(t, "CostLeast of "+what, p, cost, ok)
		p, number, ok := impl.CostNarrow(c)
		wantNoChoice(t, "CostNarrow of "+what, p, number, ok)
		prices, ok := impl.CostPrices(c)
		wantNoList(t, "CostPrices of "+what, prices, ok)
		turned, ok := impl.CostTurned(c)
		wantNoLists(t, "CostTurned of "+what, turned, ok)
		for _, by := range []int{0, 1, -1, moreMax, -moreMax} {
			more, ok := impl.CostMore(c, 0, by)
			wantNoLists(t, "CostMore of "+what, more, ok)
		}
	}
}

func TestCostIn(t *testing.T) {
	for n := 1; n <= rowsMax; n++ {
		for _, number := range []int{0, 1, termMax + 1, costMax, -costMax} {
			for row := range n {
				for column := range n {
					if c := withNumber(equalCosts(n, 0), row, column, number); !impl.CostIn(c) {
						t.Errorf("CostIn(%v) does not hold", c)
					}
				}
			}
			for _, past := range []int{costMax + 1, -costMax - 1} {
				for place := range n * n {
					if c := withNumber(equalCosts(n, number), place/n, place%n, past); impl.CostIn(c) {
						t.Errorf("CostIn(%v) holds", c)
					}
				}
			}
		}
	}
}

func TestCostNoChoice(t *testing.T) {
	for n := 1; n <= rowsMax; n++ {
		for what, p := range badOrders(n) {
			cost, ok := impl.CostOf(equalCosts(n, 3), p)
			wantNoNumber(t, "CostOf of a choice that is "+what, cost, ok)
		}
	}
	for _, p := range [][]int{{0, 2, 2}, {0, 2, 3}, {1, 2, 3}, {0, 1}, {0, 1, 2, 3}, {-1, 0, 1}, {2, 1, 1}} {
		cost, ok := impl.CostOf(equalCosts(3, 0), p)
		wantNoNumber(t, "CostOf of three rows", cost, ok)
	}
}

// TestCostCases holds what is told of costs against numbers made by another program.
func TestCostCases(t *testing.T) {
	for _, c := range costCases() {
		p, cost, ok := impl.CostLeast(c.c)
		wantChoice(t, "CostLeast of "+c.what, p, cost, ok, c.least, c.cost)
		p, number, ok := impl.CostNarrow(c.c)
		wantChoice(t, "CostNarrow of "+c.what, p, number, ok, c.narrow, c.number)
		prices, ok := impl.CostPrices(c.c)
		wantList(t, "CostPrices of "+c.what, prices, ok, c.prices...)
		if !impl.CostIn(c.c) || !impl.CostFit(c.c, c.prices) {
			t.Errorf("CostIn of %s does not hold, or CostFit of %v", c.what, c.prices)
		}
	}
}

func TestCostOf(t *testing.T) {
	cases := []struct {
		what string
		c    [][]int
		p    []int
		want int
	}{
		{"one row", [][]int{{-4}}, []int{0}, -4},
		{"the least number of one row", [][]int{{-costMax}}, []int{0}, -costMax},
		{"two rows, the first choice", [][]int{{4, 1}, {2, 3}}, []int{0, 1}, 7},
		{"two rows, the last choice", [][]int{{4, 1}, {2, 3}}, []int{1, 0}, 3},
		{"three rows in a ring", [][]int{{1, 20, 300}, {4, 50, 600}, {7, 80, 900}}, []int{1, 2, 0}, 627},
		{"three rows in a ring, the other way", [][]int{{1, 20, 300}, {4, 50, 600}, {7, 80, 900}}, []int{2, 0, 1}, 384},
		{"six rows of the greatest number", equalCosts(6, costMax), []int{3, 1, 5, 0, 4, 2}, 6 * costMax},
		{"six rows of the least number", equalCosts(6, -costMax), []int{5, 4, 3, 2, 1, 0}, -6 * costMax},
		{"six rows, a number at an end", withNumber(equalCosts(6, 0), 0, 5, -costMax), []int{5, 1, 2, 3, 4, 0}, -costMax},
		{"six rows, a number at the other end", withNumber(equalCosts(6, 0), 5, 0, costMax), []int{5, 1, 2, 3, 4, 0}, costMax},
		{"six rows, a number not chosen", withNumber(equalCosts(6, 0), 5, 5, costMax), []int{5, 1, 2, 3, 4, 0}, 0},
		{"six rows of products", products6, []int{1, 0, 3, 2, 5, 4}, 2 + 2 + 12 + 12 + 30 + 30},
	}
	for _, c := range cases {
		cost, ok := impl.CostOf(c.c, c.p)
		wantNumber(t, "CostOf of "+c.what, cost, ok, c.want)
	}
}

func TestCostFit(t *testing.T) {
	high, low := priceMax, -priceMax
	six := append(repeated(high, 6), repeated(low, 6)...)
	cases := []struct {
		what   string
		c      [][]int
		prices []int
		want   bool
	}{
		{"one row, exactly", [][]int{{5}}, []int{2, 3}, true},
		{"one row, one less", [][]int{{5}}, []int{1, 3}, true},
		{"one row, one more", [][]int{{5}}, []int{3, 3}, false},
		{"one row, the limits of prices", [][]int{{0}}, []int{high, low}, true},
		{"one row, the limits of prices exchanged", [][]int{{0}}, []int{low, high}, true},
		{"one row, the limits of prices, a number less", [][]int{{-1}}, []int{high, low}, false},
		{"one row, the least prices", [][]int{{-costMax}}, []int{low, low}, true},
		{"one row, the greatest prices", [][]int{{costMax}}, []int{high, high}, false},
		{"one row, one less than the limit", [][]int{{-1}}, []int{high - 1, low}, true},
		{"two rows, exactly", [][]int{{4, 1}, {2, 3}}, []int{1, 2, 0, 0}, true},
		{"two rows, the first number less", [][]int{{0, 1}, {2, 3}}, []int{1, 2, 0, 0}, false},
		{"two rows, the number behind less", [][]int{{4, 0}, {2, 3}}, []int{1, 2, 0, 0}, false},
		{"two rows, the number below less", [][]int{{4, 1}, {1, 3}}, []int{1, 2, 0, 0}, false},
		{"two rows, the last number less", [][]int{{4, 1}, {2, 1}}, []int{1, 2, 0, 0}, false},
		{"two rows, prices of rows and columns exchanged", [][]int{{4, 1}, {2, 3}}, []int{0, 0, 1, 2}, false},
		{"two rows, positive prices of columns", [][]int{{4, 1}, {5, 3}}, []int{0, 1, 4, 1}, true},
		{"six rows, the limits of prices", equalCosts(6, 0), six, true},
		{"six rows, the limits of prices and a number at an end", withNumber(equalCosts(6, 0), 0, 5, -1), six, false},
		{"six rows, the limits of prices and a number at the other end", withNumber(equalCosts(6, 0), 5, 0, -1), six, false},
		{"six rows, the limits of prices and the last number", withNumber(equalCosts(6, 0), 5, 5, -1), six, false},
		{"six rows, the limits of both", equalCosts(6, costMax), append(repeated(high, 6), repeated(low+costMax, 6)...), true},
		{"six rows, one more than the limits of both", equalCosts(6, costMax), append(repeated(high, 6), repeated(low+costMax+1, 6)...), false},
		{"six rows of sums, exactly", sums6, []int{0, 10, 20, 30, 40, 50, 0, 1, 2, 3, 4, 5}, true},
		{"six rows of sums, one more at the end", sums6, []int{0, 10, 20, 30, 40, 50, 0, 1, 2, 3, 4, 6}, false},
	}
	for _, c := range cases {
		if got := impl.CostFit(c.c, c.prices); got != c.want {
			t.Errorf("CostFit of %s is %v", c.what, got)
		}
	}
}

func TestCostNoPrices(t *testing.T) {
	for n := 1; n <= rowsMax; n++ {
		for _, number := range []int{0, costMax} {
			for what, prices := range badPrices(n) {
				if impl.CostFit(equalCosts(n, number), prices) {
					t.Errorf("CostFit of %d rows and %s, %v, holds", n, what, prices)
				}
			}
			if !impl.CostFit(equalCosts(n, number), repeated(-priceMax, 2*n)) {
				t.Errorf("CostFit of %d rows and the least prices does not hold", n)
			}
		}
	}
}

func TestCostTurned(t *testing.T) {
	cases := []struct {
		what    string
		c, want [][]int
	}{
		{"one row", [][]int{{-7}}, [][]int{{-7}}},
		{"two rows", [][]int{{1, 2}, {3, 4}}, [][]int{{1, 3}, {2, 4}}},
		{"three rows, the same as before", [][]int{{0, 2, 7}, {2, 5, 1}, {7, 1, 4}}, [][]int{{0, 2, 7}, {2, 5, 1}, {7, 1, 4}}},
		{"three rows", [][]int{{1, 2, 3}, {4, 5, 6}, {7, 8, 9}}, [][]int{{1, 4, 7}, {2, 5, 8}, {3, 6, 9}}},
		{"six rows, a number at an end", withNumber(equalCosts(6, 0), 0, 5, costMax), withNumber(equalCosts(6, 0), 5, 0, costMax)},
		{"six rows, a number at the other end", withNumber(equalCosts(6, 0), 5, 0, -costMax), withNumber(equalCosts(6, 0), 0, 5, -costMax)},
		{"six rows of products, the same as before", products6, products6},
		{"six rows of sums", sums6, tableOf(6, func(row, column int) int { return 10*column + row })},
	}
	for _, c := range cases {
		turned, ok := impl.CostTurned(c.c)
		wantLists(t, "CostTurned of "+c.what, turned, ok, c.want...)
	}
}

func TestCostMore(t *testing.T) {
	cases := []struct {
		what    string
		c       [][]int
		row, by int
		want    [][]int
	}{
		{"one row", [][]int{{3}}, 0, -5, [][]int{{-2}}},
		{"one row, from limit to limit", [][]int{{-costMax}}, 0, moreMax, [][]int{{costMax}}},
		{"one row, back from limit to limit", [][]int{{costMax}}, 0, -moreMax, [][]int{{-costMax}}},
		{"one row, one more than the limit", [][]int{{-costMax + 1}}, 0, moreMax, nil},
		{"one row, one less than the limit", [][]int{{costMax - 1}}, 0, -moreMax, nil},
		{"nothing more", [][]int{{1, 2}, {3, 4}}, 1, 0, [][]int{{1, 2}, {3, 4}}},
		{"the first row", [][]int{{1, 2}, {3, 4}}, 0, 10, [][]int{{11, 12}, {3, 4}}},
		{"the last row", [][]int{{1, 2}, {3, 4}}, 1, -10, [][]int{{1, 2}, {-7, -6}}},
		{"the limit in the first column", [][]int{{999, 0}, {0, 0}}, 0, 1, [][]int{{1000, 1}, {0, 0}}},
		{"past the limit in the first column", [][]int{{999, 0}, {0, 0}}, 0, 2, nil},
		{"past the limit in the last column", [][]int{{0, 0}, {0, -999}}, 1, -2, nil},
		{"the limit in another row", [][]int{{costMax, -costMax}, {0, 0}}, 1, 1, [][]int{{costMax, -costMax}, {1, 1}}},
		{"the first of six rows", equalCosts(6, 4), 0, 5, append([][]int{repeated(9, 6)}, equalCosts(6, 4)[1:]...)},
		{"the last of six rows", equalCosts(6, 4), 5, -4, append(equalCosts(6, 4)[:5], make([]int, 6))},
		{"the last of six rows, past the limit in the first column", withNumber(equalCosts(6, 0), 5, 0, costMax), 5, 1, nil},
		{"a row between, past the limit in the last column", withNumber(equalCosts(6, 0), 3, 5, -costMax), 3, -1, nil},
	}
	for _, c := range cases {
		more, ok := impl.CostMore(c.c, c.row, c.by)
		if c.want == nil {
			wantNoLists(t, "CostMore of "+c.what, more, ok)
			continue
		}
		wantLists(t, "CostMore of "+c.what, more, ok, c.want...)
	}
}

// TestCostMoreNone tells rows that there are none of, and numbers that may not be added.
func TestCostMoreNone(t *testing.T) {
	for n := 1; n <= rowsMax; n++ {
		for _, row := range append(outside(0, n-1), n+6, -n) {
			for _, by := range []int{0, 1, -1} {
				more, ok := impl.CostMore(equalCosts(n, 2), row, by)
				wantNoLists(t, "CostMore of no row", more, ok)
			}
		}
		for _, number := range []int{0, costMax, -costMax} {
			for _, by := range outside(-moreMax, moreMax) {
				if by >= -moreMax && by <= moreMax {
					continue
				}
				for row := range n {
					more, ok := impl.CostMore(equalCosts(n, number), row, by)
					wantNoLists(t, "CostMore of a number past the bounds", more, ok)
				}
			}
		}
	}
}

func TestPromise82(t *testing.T) {
	for _, s := range costSamples() {
		if !impl.CostIn(s.c) {
			t.Errorf("CostIn(%v) does not hold", s.c)
		}
		p, cost, ok := impl.CostLeast(s.c)
		wantChoice(t, "CostLeast", p, cost, ok, s.least, s.cost)
		if got := costOf(t, s.c, p); got != cost {
			t.Errorf("CostLeast(%v) returned %v and %d, of which CostOf is %d", s.c, p, cost, got)
		}
	}
}

func TestPromise83(t *testing.T) {
	for _, s := range costSamples() {
		_, least := costLeast(t, s.c)
		for _, p := range allPairings(len(s.c)) {
			cost := costOf(t, s.c, p)
			if want := choiceCost(s.c, p); cost != want || cost < least {
				t.Errorf("CostOf(%v, %v) is %d, want %d; the least cost is %d", s.c, p, cost, want, least)
			}
		}
	}
}

func TestPromise84(t *testing.T) {
	for _, s := range costSamples() {
		prices := costPrices(t, s.c)
		p, cost := costLeast(t, s.c)
		sum := 0
		for _, price := range prices {
			sum += price
		}
		if sum != cost {
			t.Errorf("CostPrices(%v) is %v, with the sum %d, and the least cost %d", s.c, prices, sum, cost)
		}
		for row, column := range p {
			if both := prices[row] + prices[len(p)+column]; both != s.c[row][column] {
				t.Errorf("CostPrices(%v) is %v, which are %d in the row %d and the column %d", s.c, prices, both, row, column)
			}
		}
	}
}

// someFits returns prices that are told and others near them: zeros, those of rows and columns exchanged, each one a little greater or less, and all moved from rows to columns or back.
func someFits(prices []int) [][]int {
	n := len(prices) / 2
	lists := [][]int{prices, repeated(0, 2*n), append(slices.Clone(prices[n:]), prices[:n]...)}
	for _, by := range []int{1, -1, 3} {
		for place := range prices {
			list := slices.Clone(prices)
			list[place] += by
			lists = append(lists, list)
		}
		// What is given to all rows and taken from all columns leaves the sums as they are.
		list := slices.Clone(prices)
		for place := range list {
			list[place] += by * 10000 * (1 - 2*(place/n))
		}
		lists = append(lists, list)
	}
	return lists
}

func TestPromise85(t *testing.T) {
	var yes, no int
	for _, s := range costSamples() {
		_, cost := costLeast(t, s.c)
		for _, prices := range someFits(s.prices) {
			fit := impl.CostFit(s.c, prices)
			if fit != areFit(s.c, prices) {
				t.Errorf("CostFit(%v, %v) is %v", s.c, prices, fit)
			}
			if !fit {
				no++
				continue
			}
			yes++
			sum := 0
			for _, price := range prices {
				sum += price
			}
			if sum > cost {
				t.Errorf("CostFit(%v, %v) holds, with the sum %d and the least cost %d", s.c, prices, sum, cost)
			}
		}
	}
	if yes < 1000 || no < 1000 {
		t.Errorf("%d prices fit, and %d did not", yes, no)
	}
}

func TestPromise86(t *testing.T) {
	for _, s := range costSamples() {
		prices, ok := impl.CostPrices(s.c)
		wantList(t, "CostPrices", prices, ok, s.prices...)
		if !impl.CostFit(s.c, prices) {
			t.Errorf("CostFit(%v, %v) does not hold for CostPrices", s.c, prices)
		}
		if slices.Max(prices[len(s.c):]) > 0 {
			t.Errorf("CostPrices(%v) is %v, with a column for more than 0", s.c, prices)
		}
	}
}

func TestPromise87(t *testing.T) {
	same := 0
	for _, s := range costSamples() {
		turned := costTurned(t, s.c)
		if want := acrossOf(s.c); !sameLists(turned, want) {
			t.Errorf("CostTurned(%v) is %v, want %v", s.c, turned, want)
		}
		if back := costTurned(t, turned); !sameLists(back, s.c) {
			t.Errorf("CostTurned(%v) is %v, want %v", turned, back, s.c)
		}
		if sameLists(turned, s.c) {
			same++
		}
		_, cost := costLeast(t, turned)
		_, number := costNarrow(t, turned)
		if cost != s.cost || number != s.number {
			t.Errorf("of %v turned, CostLeast is %d and CostNarrow %d, want %d and %d", s.c, cost, number, s.cost, s.number)
		}
	}
	if same < 100 || same > len(costSamples())-100 {
		t.Errorf("%d of %d costs were the same when turned", same, len(costSamples()))
	}
}

func TestPromise88(t *testing.T) {
	var yes, no int
	for _, s := range costSamples() {
		for row := range s.c {
			least, most := slices.Min(s.c[row]), slices.Max(s.c[row])
			for _, by := range []int{0, 1, -1, 50, costMax - most, costMax - most + 1, -costMax - least, -costMax - least - 1} {
				more, ok := impl.CostMore(s.c, row, by)
				if most+by > costMax || least+by < -costMax || by > moreMax || by < -moreMax {
					no++
					wantNoLists(t, "CostMore past the bounds", more, ok)
					continue
				}
				yes++
				want := cloneLists(s.c)
				for column := range want {
					want[row][column] += by
				}
				wantLists(t, "CostMore", more, ok, want...)
				p, cost, ok := impl.CostLeast(more)
				wantChoice(t, "CostLeast of CostMore", p, cost, ok, s.least, s.cost+by)
			}
		}
	}
	if yes < 1000 || no < 1000 {
		t.Errorf("CostMore succeeded %d times, and failed %d times", yes, no)
	}
}

func TestPromise89(t *testing.T) {
	another := 0
	for _, s := range costSamples() {
		p, number, ok := impl.CostNarrow(s.c)
		wantChoice(t, "CostNarrow", p, number, ok, s.narrow, s.number)
		if got := choiceGreatest(s.c, p); got != number {
			t.Errorf("CostNarrow(%v) returned %v and %d, and its greatest number is %d", s.c, p, number, got)
		}
		least, _ := costLeast(t, s.c)
		if got := choiceGreatest(s.c, least); got < number {
			t.Errorf("CostNarrow(%v) returned %d, and the least choice has %d", s.c, number, got)
		}
		if !slices.Equal(p, least) {
			another++
		}
	}
	if another < 100 {
		t.Errorf("just %d narrow choices were not the least ones", another)
	}
}

func TestPromise90(t *testing.T) {
	var odd, more int
	for _, m := range sampleGraphs() {
		g := m.list()
		weight, ok := impl.CostHalf(g)
		wantNumber(t, "CostHalf", weight, ok, m.halfWeight())
		twice := 2 * greatestOf(t, g)
		if weight < twice || weight > len(g) || weight > 2*nodesIn(coverOf(t, g)) {
			t.Errorf("CostHalf(%v) is %d, with %d edges in a greatest matching and %d nodes in a cover", g, weight, twice/2, nodesIn(coverOf(t, g)))
		}
		if _, sides := impl.GraphSides(g); sides && weight != twice {
			t.Errorf("CostHalf(%v) is %d, and twice the greatest matching is %d", g, weight, twice)
		}
		odd += weight % 2
		if weight > twice {
			more++
		}
	}
	if odd < 100 || more < 100 {
		t.Errorf("%d half matchings had an odd weight, and %d more than a matching", odd, more)
	}
}

func TestCostHalf(t *testing.T) {
	cases := []struct {
		what string
		g    []int
		want int
	}{
		{"one node", []int{0}, 0},
		{"two nodes without edges", []int{0, 0}, 0},
		{"8 nodes without edges", make([]int, 8), 0},
		{"an edge", []int{2, 1}, 2},
		{"an edge and a node alone", []int{2, 1, 0}, 2},
		{"a ring of 3", []int{6, 5, 3}, 3},
		{"a ring of 3 and a node alone", []int{6, 5, 3, 0}, 3},
		{"a ring of 3 and a node at it", []int{6, 5, 11, 4}, 4},
		{"a way of 3", []int{2, 5, 2}, 2},
		{"a way of 5", []int{2, 5, 10, 20, 8}, 4},
		{"a ring of 4", ring4, 4},
		{"a ring of 5", []int{18, 5, 10, 20, 9}, 5},
		{"a ring of 5 and nodes at two of it", []int{50, 69, 10, 20, 9, 1, 2}, 6},
		{"a ring of 7", []int{66, 5, 10, 20, 40, 80, 33}, 7},
		{"a ring of 8", ring8, 8},
		{"rings of 3 and of 5", []int{6, 5, 3, 144, 40, 80, 160, 72}, 8},
		{"two rings of 3", []int{6, 5, 3, 48, 40, 24}, 6},
		{"two rings of 3 at one node", []int{6, 5, 27, 20, 12}, 5},
		{"the full graph of 4", full4, 4},
		{"the full graph of 5", []int{30, 29, 27, 23, 15}, 5},
		{"the full graph of 7", []int{126, 125, 123, 119, 111, 95, 63}, 7},
		{"the full graph of 8", full8, 8},
		{"a star of 8", []int{254, 1, 1, 1, 1, 1, 1, 1}, 2},
		{"a star around the last node", []int{16, 16, 16, 16, 15}, 2},
		{"three and five", []int{248, 248, 248, 7, 7, 7, 7, 7}, 6},
		{"several parts", mixed, 7},
	}
	for _, c := range cases {
		weight, ok := impl.CostHalf(c.g)
		wantNumber(t, "CostHalf of "+c.what, weight, ok, c.want)
	}
	for what, g := range badGraphs() {
		weight, ok := impl.CostHalf(g)
		wantNoNumber(t, "CostHalf of "+what, weight, ok)
	}
}
