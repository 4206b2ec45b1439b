package tests

import (
	"slices"
	"sync"
	"testing"

	"loop.example/matchpolys/impl"
)

// The limits of costs, prices and what is added to a row, as the document tells them.
const (
	costMax  = 1000
	priceMax = 100000
	moreMax  = 2000
)

// Costs that several tests use: such with several choices of the least cost, of which the narrow one is another one; and such whose ways of steps come to all columns, each step for -1.
var (
	sums6     = tableOf(6, func(row, column int) int { return 10*row + column })
	products6 = tableOf(6, func(row, column int) int { return (row + 1) * (column + 1) })
	chain6    = chainCosts([]int{0, 1, 2, 3, 4, 5})
	mixed6    = [][]int{{7, 53, 183, 439, 63, 497}, {383, 563, 79, 973, -287, 63}, {343, 169, -583, 627, 343, 773}, {-959, 943, 767, 473, 103, 699}, {303, 957, -703, 583, 639, 913}, {447, 283, 463, 29, -23, 487}}
)

// chainCosts returns costs with the choice of the same columns as rows for 0, and a step for -1 from each column of a list to the next one; all others cost 99.
func chainCosts(columns []int) [][]int {
	c := equalCosts(len(columns), 99)
	for i, column := range columns {
		c[column][column] = 0
		if i > 0 {
			c[columns[i-1]][column] = -1
		}
	}
	return c
}

// equalCosts returns n rows in which all numbers are equal.
func equalCosts(n, number int) [][]int {
	return tableOf(n, func(int, int) int { return number })
}

// chosenNumbers returns the numbers of a choice, row by row.
func chosenNumbers(c [][]int, p []int) []int {
	numbers := []int{}
	for row, column := range p {
		numbers = append(numbers, c[row][column])
	}
	return numbers
}

func choiceCost(c [][]int, p []int) int {
	cost := 0
	for _, number := range chosenNumbers(c, p) {
		cost += number
	}
	return cost
}

func choiceGreatest(c [][]int, p []int) int {
	return slices.Max(chosenNumbers(c, p))
}

// leastChoice returns the first one of all choices of which what is told of it is least, and this.
func leastChoice(c [][]int, told func(c [][]int, p []int) int) ([]int, int) {
	all := allPairings(len(c))
	least := all[0]
	for _, p := range all {
		if told(c, p) < told(c, least) {
			least = p
		}
	}
	return least, told(c, least)
}

// pricesOf returns the prices of rows and columns for a choice of the least cost, by all ways of steps that come to no column twice.
func pricesOf(c [][]int, p []int) []int {
	n := len(c)
	prices := make([]int, 2*n)
	seen := make([]bool, n)
	var walk func(at, cost int)
	walk = func(at, cost int) {
		prices[n+at] = min(prices[n+at], cost)
		seen[at] = true
		row := slices.Index(p, at)
		for to := range n {
			if !seen[to] {
				walk(to, cost+c[row][to]-c[row][at])
			}
		}
		seen[at] = false
	}
	for column := range n {
		walk(column, 0)
	}
	for row, column := range p {
		prices[row] = c[row][column] - prices[n+column]
	}
	return prices
}

// areFit reports whether prices of a right length fit.
func areFit(c [][]int, prices []int) bool {
	for row := range c {
		for column := range c {
			if prices[row]+prices[len(c)+column] > c[row][column] {
				return false
			}
		}
	}
	return true
}

// costSample has costs with the choices of the least cost and of the least greatest number, what they cost, and the prices.
type costSample struct {
	c      [][]int
	least  []int
	cost   int
	narrow []int
	number int
	prices []int
}

func costSampleOf(c [][]int) costSample {
	s := costSample{c: c}
	s.least, s.cost = leastChoice(c, choiceCost)
	s.narrow, s.number = leastChoice(c, choiceGreatest)
	s.prices = pricesOf(c, s.least)
	return s
}

// drawnCosts returns costs of n rows with numbers up to a size: drawn ones, such that are the same when turned, such with equal rows and with equal columns.
func drawnCosts(n, size int, draw func(below int) int) [][][]int {
	drawn := tableOf(n, func(int, int) int { return draw(2*size+1) - size })
	first := drawn[0]
	return [][][]int{
		drawn,
		tableOf(n, func(row, column int) int { return drawn[min(row, column)][max(row, column)] }),
		tableOf(n, func(row, column int) int { return first[column] }),
		tableOf(n, func(row, column int) int { return first[row] }),
		tableOf(n, func(row, column int) int { return (first[row] + first[column]) / 2 }),
		tableOf(n, func(row, column int) int { return drawn[row][column] / 100 * 100 }),
	}
}

// costLists returns all tables of one and of two rows with few numbers and others of up to 6 rows, and costs of up to 6 rows with the limits, with steps in chains, and drawn ones: few numbers of which many are equal, and many.
func costLists() [][][]int {
	lists := plainTables()
	for _, f := range costCases() {
		lists = append(lists, f.c)
	}
	few := []int{-costMax, 0, costMax}
	for i := range 81 {
		lists = append(lists, [][]int{{few[i%3], few[i/3%3]}, {few[i/9%3], few[i/27]}})
	}
	draw := drawer(8)
	for n := 1; n <= rowsMax; n++ {
		for _, number := range []int{7, costMax, -costMax} {
			lists = append(lists, equalCosts(n, number))
		}
		for _, columns := range drawnSide(n, draw) {
			lists = append(lists, chainCosts(columns))
		}
		for i := range 12 {
			lists = append(lists, drawnCosts(n, []int{1, 2, 9, costMax}[i%4], draw)...)
		}
	}
	return lists
}

// costSamples are the costs of costLists, with what is told of them. No test changes them.
var costSamples = sync.OnceValue(func() []costSample {
	var samples []costSample
	for _, c := range costLists() {
		samples = append(samples, costSampleOf(c))
	}
	return samples
})

// costCase is a list of costs with what is told of it.
type costCase struct {
	what string
	costSample
}

// costCases have costs of one row and of six, with all numbers equal, with several choices of the least cost, with the limits, and such that are the same when turned. Another program has made what is told of them.
func costCases() []costCase {
	const most = costMax
	rising, falling, zeros := []int{0, 1, 2, 3, 4, 5}, []int{5, 4, 3, 2, 1, 0}, make([]int, 6)
	lowest := append(repeated(-most, 6), zeros...)
	diagonal := tableOf(6, func(row, column int) int { return most - 2*most*(1-min(1, (row-column)*(row-column))) })
	across := slices.Clone(diagonal)
	slices.Reverse(across)
	return []costCase{
		{"a 0", costSample{[][]int{{0}}, []int{0}, 0, []int{0}, 0, []int{0, 0}}},
		{"the greatest number", costSample{[][]int{{most}}, []int{0}, most, []int{0}, most, []int{most, 0}}},
		{"the least number", costSample{[][]int{{-most}}, []int{0}, -most, []int{0}, -most, []int{-most, 0}}},
		{"two rows", costSample{[][]int{{4, 1}, {2, 3}}, []int{1, 0}, 3, []int{1, 0}, 2, []int{1, 2, 0, 0}}},
		{"two rows, all equal", costSample{equalCosts(2, 7), []int{0, 1}, 14, []int{0, 1}, 7, []int{7, 7, 0, 0}}},
		{"two rows, both choices the least", costSample{[][]int{{1, 2}, {2, 3}}, []int{0, 1}, 4, []int{1, 0}, 2, []int{2, 3, -1, 0}}},
		{"two rows, the narrow choice costs more", costSample{[][]int{{-5, -9}, {0, -3}}, []int{1, 0}, -9, []int{0, 1}, -3, []int{-6, 0, 0, -3}}},
		{"the limits, the first choice", costSample{[][]int{{-most, most}, {most, -most}}, []int{0, 1}, -2 * most, []int{0, 1}, -most, []int{-most, -most, 0, 0}}},
		{"the limits, the last choice", costSample{[][]int{{most, -most}, {-most, most}}, []int{1, 0}, -2 * most, []int{1, 0}, -most, []int{-most, -most, 0, 0}}},
		{"the limits, equal rows", costSample{[][]int{{most, -most}, {most, -most}}, []int{0, 1}, 0, []int{0, 1}, most, []int{most, most, 0, -2 * most}}},
		{"the limits, equal columns", costSample{[][]int{{most, most}, {-most, -most}}, []int{0, 1}, 0, []int{0, 1}, most, []int{most, -most, 0, 0}}},
		{"three rows", costSample{[][]int{{3, 1, 2}, {1, 2, 3}, {2, 3, 1}}, []int{1, 0, 2}, 3, []int{1, 0, 2}, 1, []int{1, 1, 1, 0, 0, 0}}},
		{"three rows, two choices the least", costSample{[][]int{{1, 1, 5}, {1, 1, 5}, {5, 5, 5}}, []int{0, 1, 2}, 7, []int{0, 1, 2}, 5, []int{1, 1, 5, 0, 0, 0}}},
		{"three rows, the same when turned", costSample{[][]int{{0, 2, 7}, {2, 5, 1}, {7, 1, 4}}, []int{0, 2, 1}, 2, []int{0, 2, 1}, 1, []int{0, 1, 1, 0, 0, 0}}},
		{"three rows, the least number of the first one not chosen", costSample{[][]int{{1, 2, 9}, {1, 9, 9}, {1, 2, 3}}, []int{1, 0, 2}, 6, []int{1, 0, 2}, 3, []int{3, 3, 3, -2, -1, 0}}},
		{"three rows, the rest not the narrowest", costSample{[][]int{{5, 9, 9}, {9, 3, 2}, {9, 1, 4}}, []int{0, 2, 1}, 8, []int{0, 1, 2}, 5, []int{5, 2, 1, 0, 0, 0}}},
		{"four rows, a chain ahead", costSample{[][]int{{0, -1, 9, 9}, {9, 0, -1, 9}, {9, 9, 0, -1}, {9, 9, 9, 0}}, []int{0, 1, 2, 3}, 0, []int{0, 1, 2, 3}, 0, []int{0, 1, 2, 3, 0, -1, -2, -3}}},
		{"four rows, a chain back", costSample{[][]int{{0, 9, 9, 9}, {-1, 0, 9, 9}, {9, -1, 0, 9}, {9, 9, -1, 0}}, []int{0, 1, 2, 3}, 0, []int{0, 1, 2, 3}, 0, []int{3, 2, 1, 0, -3, -2, -1, 0}}},
		{"six rows, all equal", costSample{equalCosts(6, 1), rising, 6, rising, 1, append(repeated(1, 6), zeros...)}},
		{"six rows of the least number", costSample{equalCosts(6, -most), rising, -6 * most, rising, -most, lowest}},
		{"six rows of the greatest number", costSample{equalCosts(6, most), rising, 6 * most, rising, most, append(repeated(most, 6), zeros...)}},
		{"six rows, the least number once in each", costSample{diagonal, rising, -6 * most, rising, -most, lowest}},
		{"six rows, the last choice", costSample{across, falling, -6 * most, falling, -most, lowest}},
		{"six rows of products", costSample{products6, falling, 56, []int{4, 5, 3, 2, 0, 1}, 12, []int{6, 11, 15, 18, 20, 21, -15, -10, -6, -3, -1, 0}}},
		{"six rows of sums", costSample{sums6, rising, 165, []int{1, 2, 3, 4, 5, 0}, 50, []int{5, 15, 25, 35, 45, 55, -5, -4, -3, -2, -1, 0}}},
		{"six rows, a chain ahead", costSample{chain6, rising, 0, rising, 0, []int{0, 1, 2, 3, 4, 5, 0, -1, -2, -3, -4, -5}}},
		{"six rows, a chain back", costSample{chainCosts(falling), rising, 0, rising, 0, []int{5, 4, 3, 2, 1, 0, -5, -4, -3, -2, -1, 0}}},
		{"six rows, a chain to and fro", costSample{chainCosts([]int{3, 0, 5, 1, 4, 2}), rising, 0, rising, 0, []int{1, 3, 5, 0, 4, 2, -1, -3, -5, 0, -4, -2}}},
		{"six rows, mixed", costSample{mixed6, []int{4, 5, 1, 0, 2, 3}, -1338, []int{0, 5, 1, 4, 2, 3}, 169, []int{413, 63, 529, -553, 409, 29, -406, -360, -1112, 0, -350, 0}}},
	}
}

// badCosts returns lists of lists that have no costs, by what is wrong with them.
func badCosts() map[string][][]int {
	return badSquares(costMax)
}

// badPrices returns lists that are no prices for n rows, by what is wrong with them. Those of a right length would fit costs that are not less than 0, but for the limits.
func badPrices(n int) map[string][]int {
	const least = -1 << 63
	low := repeated(-priceMax, 2*n)
	with := func(place, number int) []int {
		list := slices.Clone(low)
		list[place] = number
		return list
	}
	bad := map[string][]int{
		"nil":             nil,
		"empty":           {},
		"one price":       {-priceMax},
		"one less":        low[1:],
		"one more":        append(slices.Clone(low), -priceMax),
		"just the rows":   low[:n],
		"twice as many":   slices.Repeat(low, 2),
		"very many":       slices.Repeat(low, 1000),
		"a row more":      append(slices.Clone(low), -priceMax, -priceMax),
		"all below limit": repeated(-priceMax-1, 2*n),
	}
	for name, number := range map[string]int{"one below the limit": -priceMax - 1, "far below the limit": -1 << 40, "the least number": least, "near the least number": least + priceMax} {
		bad[name+", of the first row"] = with(0, number)
		bad[name+", of the last row"] = with(n-1, number)
		bad[name+", of the first column"] = with(n, number)
		bad[name+", of the last column"] = with(2*n-1, number)
	}
	// Beside a price above the limit, the others are such that their sums are small.
	bad["one above the limit, of the first row"] = with(0, priceMax+1)
	bad["one above the limit, of the last row"] = with(n-1, priceMax+1)
	bad["one above the limit, of the last column"] = with(2*n-1, priceMax+1)
	bad["the greatest number, of the first row"] = with(0, 1<<63-1)
	bad["sums that have no room"] = repeated(least, 2*n)
	return bad
}

// halfWeight returns the greatest weight of a half matching: each edge has each number for which both of its nodes have room.
func (m matrix) halfWeight() int {
	edges := m.pairs(true)
	room := repeated(2, len(m))
	greatest := 0
	var give func(from, weight int)
	give = func(from, weight int) {
		if from == len(edges) {
			greatest = max(greatest, weight)
			return
		}
		a, b := edges[from][0], edges[from][1]
		for number := range min(room[a], room[b]) + 1 {
			room[a], room[b] = room[a]-number, room[b]-number
			give(from+1, weight+number)
			room[a], room[b] = room[a]+number, room[b]+number
		}
	}
	give(0, 0)
	return greatest
}

func costOf(t *testing.T, c [][]int, p []int) int {
	t.Helper()
	return must[int](t, "CostOf")(impl.CostOf(c, p))
}

func costLeast(t *testing.T, c [][]int) ([]int, int) {
	t.Helper()
	p, cost, ok := impl.CostLeast(c)
	if !ok {
		t.Errorf("CostLeast(%v) fails", c)
	}
	return p, cost
}

func costNarrow(t *testing.T, c [][]int) ([]int, int) {
	t.Helper()
	p, number, ok := impl.CostNarrow(c)
	if !ok {
		t.Errorf("CostNarrow(%v) fails", c)
	}
	return p, number
}

func costPrices(t *testing.T, c [][]int) []int {
	t.Helper()
	return must[[]int](t, "CostPrices")(impl.CostPrices(c))
}

func costTurned(t *testing.T, c [][]int) [][]int {
	t.Helper()
	return must[[][]int](t, "CostTurned")(impl.CostTurned(c))
}

func costHalf(t *testing.T, g []int) int {
	t.Helper()
	return must[int](t, "CostHalf")(impl.CostHalf(g))
}
