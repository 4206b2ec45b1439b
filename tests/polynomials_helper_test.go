package tests

import (
	"slices"
	"testing"

	"loop.example/matchpolys/impl"
)

// The limits of a polynomial, as the document tells them.
const (
	degreeMax = 20
	polyMax   = 1000000000
	factorMax = 100000
)

// powers is a polynomial as the tests keep it: the number of each power that has one. It shares no idea with the program's lists.
type powers map[int]int

func powersOf(list []int) powers {
	p := powers{}
	for i, number := range list {
		p[i] = number
	}
	return p
}

// list tells the numbers up to the last one that is not 0.
func (p powers) list() []int {
	last := -1
	for i, number := range p {
		if number != 0 {
			last = max(last, i)
		}
	}
	list := make([]int, last+1)
	for i := range list {
		list[i] = p[i]
	}
	return list
}

// isPoly reports whether a list is a polynomial.
func isPoly(list []int) bool {
	for _, number := range list {
		if number > polyMax || number < -polyMax {
			return false
		}
	}
	return len(list) <= degreeMax+1 && len(powersOf(list).list()) == len(list)
}

// isSmall reports whether all numbers are at most 100000 in size.
func isSmall(list []int) bool {
	return !slices.ContainsFunc(list, func(number int) bool { return number > factorMax || number < -factorMax })
}

func sumOf(a, b []int) []int {
	sum := powersOf(a)
	for i, number := range b {
		sum[i] += number
	}
	return sum.list()
}

func productOf(a, b []int) []int {
	product := powers{}
	for i, first := range a {
		for j, second := range b {
			product[i+j] += first * second
		}
	}
	return product.list()
}

func derivativeOf(a []int) []int {
	derivative := powers{}
	for i, number := range a {
		if i > 0 {
			derivative[i-1] = number * i
		}
	}
	return derivative.list()
}

// valueOf adds up the numbers times the powers of x, which are made one by one.
func valueOf(a []int, x int) int {
	value, power := 0, 1
	for _, number := range a {
		value += number * power
		power *= x
	}
	return value
}

// raised returns a list of zeros, and a number behind so many of them.
func raised(number, power int) []int {
	return append(make([]int, power), number)
}

// repeated returns a list of the same number so many times.
func repeated(number, times int) []int {
	return slices.Repeat([]int{number}, times)
}

// samplePolys returns polynomials of all degrees, with small numbers and with those at the limits.
func samplePolys() [][]int {
	polys := [][]int{nil, {}}
	for _, number := range []int{1, -1, 2, 3, 9999, 10000, 99999, factorMax, factorMax + 1, 50000000, 500000000, polyMax - 1, polyMax} {
		polys = append(polys, []int{number}, []int{-number}, []int{0, number}, []int{number, -1}, []int{1, -number, 1}, raised(-number, 8), raised(number, degreeMax))
	}
	for _, length := range []int{2, 9, 10, 11, 12, 20, 21} {
		polys = append(polys, repeated(1, length), repeated(-factorMax, length), repeated(polyMax, length))
	}
	next := uint64(7)
	word := func(below int) int {
		next = next*6364136223846793005 + 1442695040888963407
		return int(next>>33) % below
	}
	for i := range 60 {
		// Few kinds of numbers, so that a sum loses some of its last ones; then greater ones.
		size := []int{2, 10, factorMax, polyMax}[i%4]
		list := make([]int, word(degreeMax+2))
		for j := range list {
			list[j] = word(2*size+1) - size
		}
		polys = append(polys, powersOf(list).list())
	}
	return polys
}

// badPolys returns lists that are no polynomials, by what is wrong with them.
func badPolys() map[string][]int {
	const far, least = 1 << 62, -1 << 63
	return map[string][]int{
		"just 0":                               {0},
		"0 at the end":                         {1, 0},
		"0 at the end, twice":                  {1, 2, 0, 0},
		"zeros alone":                          {0, 0, 0},
		"21 zeros":                             make([]int, 21),
		"0 at the end of 21 numbers":           append(repeated(1, 20), 0),
		"22 numbers":                           repeated(1, 22),
		"22 numbers, all but the last 0":       raised(1, 21),
		"22 zeros":                             make([]int, 22),
		"22 numbers, the last one 0":           append(repeated(1, 21), 0),
		"very many numbers":                    repeated(1, 5000),
		"a number too great":                   {polyMax + 1},
		"a negative number too great":          {-polyMax - 1},
		"a number too great ahead":             {polyMax + 1, 1},
		"a number too great between":           {1, polyMax + 1, 1},
		"a negative number too great between":  {1, 0, -polyMax - 1, 2},
		"a number too great at the end":        {1, 2, polyMax + 1},
		"a negative one too great at the end":  {1, 2, -polyMax - 1},
		"a number too great, of 21":            append(repeated(1, 20), polyMax+1),
		"a number with the low bits of a 1":    {1<<32 + 1},
		"a far number":                         {far},
		"a far number ahead":                   {far, 1},
		"the greatest number that there is":    {-(least + 1), 1},
		"the least number that there is":       {least},
		"the least number that there is ahead": {least, 1},
		"the least number that there is, last": {1, least},
	}
}

// outside returns numbers that are less than a first one or greater than a last one.
func outside(first, last int) []int {
	return []int{first - 1, last + 1, first - 2, last + 2, last + 32, last + 64, -1000, 1000, -1 << 32, 1 << 32, -1 << 63, 1<<63 - 1}
}

func choose(n, k int) int {
	if k == 0 || k == n {
		return 1
	}
	if k < 0 || k > n {
		return 0
	}
	return choose(n-1, k-1) + choose(n-1, k)
}

// inTurn returns the polynomial of n nodes with some matching numbers, with signs in turn.
func inTurn(n int, numbers []int) []int {
	p, sign := powers{}, 1
	for k, number := range numbers {
		p[n-2*k] = sign * number
		sign = -sign
	}
	return p.list()
}

// polyOfMatchings counts all matchings of a graph.
func polyOfMatchings(m matrix) []int {
	return inTurn(len(m), numbersOf(m.matchings()))
}

// fullNumbers returns the matching numbers of the full graph of n nodes: 2 k nodes are chosen, and the lowest one left is joined again and again.
func fullNumbers(n int) []int {
	numbers := []int{}
	for k := 0; 2*k <= n; k++ {
		number := choose(n, 2*k)
		for odd := 2*k - 1; odd > 1; odd -= 2 {
			number *= odd
		}
		numbers = append(numbers, number)
	}
	return numbers
}

// wayNumbers returns the matching numbers of the way of n nodes: each edge is a place less than two nodes.
func wayNumbers(n int) []int {
	numbers := []int{}
	for k := 0; 2*k <= n; k++ {
		numbers = append(numbers, choose(n-k, k))
	}
	return numbers
}

// ringNumbers returns the matching numbers of the ring of n nodes: the last node is joined to the first one, or not.
func ringNumbers(n int) []int {
	numbers := wayNumbers(n)
	for k, number := range wayNumbers(n - 2) {
		numbers[k+1] += number
	}
	return numbers
}

// rooksOf counts the ways to put rooks on a board as matchings of the graph of its rows and columns.
func rooksOf(rows []int) []int {
	m := bareMatrix(len(rows) + 6)
	for row, set := range rows {
		for column := range 6 {
			if set>>column&1 == 1 {
				m.link(row, len(rows)+column)
			}
		}
	}
	return numbersOf(m.matchings())
}

// badBoards returns lists that are no boards, by what is wrong with them.
func badBoards() map[string][]int {
	const far, least = 1 << 62, -1 << 63
	return map[string][]int{
		"nil list":                          nil,
		"no row":                            {},
		"seven rows":                        {1, 2, 4, 8, 16, 32, 1},
		"seven empty rows":                  make([]int, 7),
		"very many rows":                    make([]int, 5000),
		"the column 6":                      {64},
		"the column 6 and others":           {127},
		"the column 6 in the last row":      {1, 2, 3, 4, 5, 64},
		"the column 6 between":              {1, 64, 1},
		"the column 32":                     {1 << 32},
		"a far column":                      {far},
		"a negative row":                    {-1},
		"a negative row between":            {1, -2, 1},
		"a negative row without low bits":   {-64},
		"a negative row, the last of six":   {63, 63, 63, 63, 63, -63},
		"the least number":                  {least},
		"the least number and the column 0": {1, least + 1},
	}
}

func polyAdd(t *testing.T, p, q []int) []int {
	t.Helper()
	return must[[]int](t, "PolyAdd")(impl.PolyAdd(p, q))
}

func matchPolyOf(t *testing.T, g []int) []int {
	t.Helper()
	return must[[]int](t, "PolyMatch")(impl.PolyMatch(g))
}

func derivedOf(t *testing.T, p []int) []int {
	t.Helper()
	return must[[]int](t, "PolyDerive")(impl.PolyDerive(p))
}
