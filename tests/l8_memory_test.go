package tests

import (
	"fmt"
	"slices"
	"testing"

	"loop.example/matchpolys/impl"
)

// costQuestion is what may be asked of costs: with a choice, prices and a row that may be none, and a graph.
type costQuestion struct {
	c         [][]int
	p, prices []int
	row, by   int
	g         []int
}

// costQuestions have the costs told by hand, with choices, prices and rows that are right and such that are none, and lists that have no costs.
func costQuestions() []costQuestion {
	graphs := append(matchGraphs(), []int{0}, full8, nil)
	var questions []costQuestion
	for _, c := range costCases() {
		n := len(c.c)
		for i, p := range [][]int{c.least, c.narrow, nil, make([]int, n), {1, 0}} {
			for j, prices := range [][]int{c.prices, make([]int, 2*n), nil, repeated(-priceMax-1, 2*n)} {
				g := graphs[len(questions)%len(graphs)]
				questions = append(questions, costQuestion{c.c, p, prices, n - 1 - i%2, j - 1, g})
			}
		}
	}
	for _, c := range badCosts() {
		questions = append(questions, costQuestion{c, []int{0}, []int{0, 0}, 0, 1, []int{1}})
	}
	return questions
}

// spread returns the question with room behind each list, and a check that nothing of it has changed.
func (q costQuestion) spread(t *testing.T, what string) (costQuestion, func()) {
	t.Helper()
	c, sameCosts := spreadLists(t, what+", costs", q.c)
	p, sameChoice := spread(t, what+", choice", q.p)
	prices, samePrices := spread(t, what+", prices", q.prices)
	g, sameGraph := spread(t, what+", graph", q.g)
	return costQuestion{c, p, prices, q.row, q.by, g}, func() {
		t.Helper()
		sameCosts()
		sameChoice()
		samePrices()
		sameGraph()
	}
}

// answers are all that is told of the question.
func (q costQuestion) answers() string {
	cost, costOK := impl.CostOf(q.c, q.p)
	least, leastCost, leastOK := impl.CostLeast(q.c)
	prices, pricesOK := impl.CostPrices(q.c)
	turned, turnedOK := impl.CostTurned(q.c)
	more, moreOK := impl.CostMore(q.c, q.row, q.by)
	narrow, number, narrowOK := impl.CostNarrow(q.c)
	half, halfOK := impl.CostHalf(q.g)
	return fmt.Sprint(impl.CostIn(q.c), impl.CostFit(q.c, q.prices), cost, costOK, least, leastCost, leastOK, prices, pricesOK) +
		fmt.Sprint(turned, turnedOK, more, moreOK, narrow, number, narrowOK, half, halfOK)
}

// choiceCalls are the functions of costs that return one list.
func choiceCalls() map[string]func(c [][]int) ([]int, bool) {
	return map[string]func(c [][]int) ([]int, bool){
		"CostPrices": impl.CostPrices,
		"CostLeast": func(c [][]int) ([]int, bool) {
			p, _, ok := impl.CostLeast(c)
			return p, ok
		},
		"CostNarrow": func(c [][]int) ([]int, bool) {
			p, _, ok := impl.CostNarrow(c)
			return p, ok
		},
	}
}

// rowsCalls are the functions of costs that return other costs.
func rowsCalls() map[string]func(c [][]int) ([][]int, bool) {
	return map[string]func(c [][]int) ([][]int, bool){
		"CostTurned":               impl.CostTurned,
		"CostMore, the first row":  func(c [][]int) ([][]int, bool) { return impl.CostMore(c, 0, 1) },
		"CostMore, the last row":   func(c [][]int) ([][]int, bool) { return impl.CostMore(c, len(c)-1, -1) },
		"CostMore, nothing more":   func(c [][]int) ([][]int, bool) { return impl.CostMore(c, 0, 0) },
		"CostMore, past the bound": func(c [][]int) ([][]int, bool) { return impl.CostMore(c, 0, moreMax) },
	}
}

func TestCostChoicesAreNew(t *testing.T) {
	for what, call := range choiceCalls() {
		for _, told := range costQuestions() {
			q, unchanged := told.spread(t, what)
			listIsNew(t, what, unchanged, func() ([]int, bool) { return call(q.c) })
		}
	}
}

func TestCostRowsAreNew(t *testing.T) {
	for what, call := range rowsCalls() {
		for _, told := range costQuestions() {
			q, unchanged := told.spread(t, what)
			listsAreNew(t, what, unchanged, func() ([][]int, bool) { return call(q.c) })
		}
	}
}

// TestCostsOfOneRow tells costs whose rows are all the same memory: the rows of a result may not be.
func TestCostsOfOneRow(t *testing.T) {
	for n := 1; n <= rowsMax; n++ {
		row, sameRow := spread(t, "a row", sums6[1][:n])
		c := slices.Repeat([][]int{row}, n)
		want := cloneLists(c)
		unchanged := func() {
			t.Helper()
			sameRow()
			if !sameLists(c, want) {
				t.Errorf("the costs %v became %v", want, c)
			}
		}
		for what, call := range rowsCalls() {
			listsAreNew(t, what, unchanged, func() ([][]int, bool) { return call(c) })
		}
		for what, call := range choiceCalls() {
			listIsNew(t, what, unchanged, func() ([]int, bool) { return call(c) })
		}
		// Just the one row is greater, not all.
		more, ok := impl.CostMore(c, 0, 5)
		for column := range want {
			want[0][column] += 5
		}
		wantLists(t, "CostMore", more, ok, want...)
		sameRow()
	}
}

// TestCostRowsAsChoices tells rows of the costs themselves as a choice and as prices.
func TestCostRowsAsChoices(t *testing.T) {
	for _, told := range [][][]int{{{0}}, {{0, 1}, {1, 0}}, {{2, 0, 1}, {1, 2, 0}, {0, 1, 2}}, {{5, 0, 1, 2, 3, 4}, make([]int, 6), make([]int, 6), make([]int, 6), make([]int, 6), make([]int, 6)}} {
		c, unchanged := spreadLists(t, "costs", told)
		for row := range c {
			p := c[row]
			cost, ok := impl.CostOf(c, p)
			if wantCost, wantOK := impl.CostOf(told, slices.Clone(told[row])); cost != wantCost || ok != wantOK {
				t.Errorf("CostOf(%v, %v) is %d, %v, and %d, %v for a copy", told, told[row], cost, ok, wantCost, wantOK)
			}
			unchanged()
			both := append(slices.Clone(told[row]), told[row]...)
			if got := impl.CostFit(c, both); got != areFit(told, both) {
				t.Errorf("CostFit(%v, %v) is %v", told, both, got)
			}
			impl.CostFit(c, p)
			unchanged()
		}
	}
}

// TestCostsOfResults tells results as arguments again, and spoils them then: what came of them stays.
func TestCostsOfResults(t *testing.T) {
	for _, s := range costSamples() {
		turned := costTurned(t, s.c)
		back := costTurned(t, turned)
		more, ok := impl.CostMore(turned, 0, 0)
		wantLists(t, "CostMore of nothing", more, ok, turned...)
		spoilLists(turned)
		if want := acrossOf(s.c); !sameLists(back, s.c) || !sameLists(more, want) {
			t.Errorf("of %v, to change what was turned made %v and %v", s.c, back, more)
		}
		least, _ := costLeast(t, back)
		narrow, _ := costNarrow(t, back)
		prices := costPrices(t, back)
		spoil(least)
		if !slices.Equal(narrow, s.narrow) || !slices.Equal(prices, s.prices) || !sameLists(back, s.c) {
			t.Errorf("of %v, to change the least choice made %v, %v and %v", s.c, narrow, prices, back)
		}
	}
}

// TestCostsStay looks at the arguments of all functions, of those that return no list, too.
func TestCostsStay(t *testing.T) {
	for _, told := range costQuestions() {
		q, unchanged := told.spread(t, "a question")
		q.answers()
		unchanged()
	}
}

// TestCostsKeepNothing asks the same of many costs, ahead and back again, with lists that have none between.
func TestCostsKeepNothing(t *testing.T) {
	questions := costQuestions()
	var first []string
	for _, q := range questions {
		first = append(first, q.answers())
	}
	for i, q := range slices.Backward(questions) {
		if got := q.answers(); got != first[i] {
			t.Errorf("of %v, %v and %v was told %s, and then %s", q.c, q.p, q.prices, first[i], got)
		}
	}
}
