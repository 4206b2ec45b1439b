package tests

import (
	"maps"
	"slices"
	"testing"

	"loop.example/matchpolys/impl"
)

// The limits of a table, as the document tells them.
const (
	termMax = 30
	rowsMax = 6
)

// tableOf makes a table of n rows, number by number.
func tableOf(n int, number func(row, column int) int) [][]int {
	t := make([][]int, n)
	for row := range t {
		t[row] = make([]int, n)
		for column := range t[row] {
			t[row][column] = number(row, column)
		}
	}
	return t
}

// mirrored makes a table of what stands, row by row, above the numbers between a row and itself, and the same times another number below.
func mirrored(n int, upper []int, times int) [][]int {
	t := tableOf(n, func(int, int) int { return 0 })
	for i, pair := range bareMatrix(n).pairs(false) {
		a, b := pair[0], pair[1]
		t[a][b], t[b][a] = upper[i], times*upper[i]
	}
	return t
}

// withNumber returns a copy of a table with another number in one place.
func withNumber(t [][]int, row, column, number int) [][]int {
	made := cloneLists(t)
	made[row][column] = number
	return made
}

func acrossOf(t [][]int) [][]int {
	return tableOf(len(t), func(row, column int) int { return t[column][row] })
}

// swapped returns which row stands where if the first two are exchanged.
func swapped(row int) int {
	if row < 2 {
		return 1 - row
	}
	return row
}

func rowsSwapped(t [][]int) [][]int {
	return tableOf(len(t), func(row, column int) int { return t[swapped(row)][column] })
}

func bothSwapped(t [][]int) [][]int {
	return tableOf(len(t), func(row, column int) int { return t[swapped(row)][swapped(column)] })
}

// isMirrored reports whether each number is the one across times another number, and 0 between a row and itself.
func isMirrored(t [][]int, times int) bool {
	for row := range t {
		for column := range t {
			if t[column][row] != times*t[row][column] || row == column && t[row][column] != 0 {
				return false
			}
		}
	}
	return true
}

// isZero reports whether all numbers are 0.
func isZero(t [][]int) bool {
	return sameLists(t, tableOf(len(t), func(int, int) int { return 0 }))
}

// order is a way to choose a column for each row, with its sign.
type order struct {
	columns []int
	sign    int
}

// orders returns all orders of n numbers: the greatest one is put in at each place of those of the others, and the sign turns with each one behind it.
func orders(n int) []order {
	if n == 0 {
		return []order{{nil, 1}}
	}
	var all []order
	for _, o := range orders(n - 1) {
		sign := o.sign
		for place := n - 1; place >= 0; place-- {
			all = append(all, order{slices.Insert(slices.Clone(o.columns), place, n-1), sign})
			sign = -sign
		}
	}
	return all
}

// overOrders returns the sums of the products over all orders, with signs and without: the determinant and the permanent.
func overOrders(t [][]int) (det, permanent int) {
	for _, o := range orders(len(t)) {
		product := 1
		for row, column := range o.columns {
			product *= t[row][column]
		}
		det += o.sign * product
		permanent += product
	}
	return det, permanent
}

// crossings counts the pairs of edges of which one begins within the other one and ends beyond it.
func crossings(list [][]int) int {
	number := 0
	for _, e := range list {
		for _, f := range list {
			if e[0] < f[0] && f[0] < e[1] && e[1] < f[1] {
				number++
			}
		}
	}
	return number
}

// fullPerfect returns, for each number of rows, the perfect matchings of the full graph of so many nodes.
func fullPerfect() [rowsMax + 1][][][]int {
	var all [rowsMax + 1][][][]int
	for n := 1; n <= rowsMax; n++ {
		all[n] = perfectOf(graphOfBits(n, 1<<28-1).matchings(), n)
	}
	return all
}

// overPairs returns the sums of the products over some perfect matchings, with signs and without: the Pfaffian and the Hafnian, for those of the full graph.
func overPairs(t [][]int, perfect [][][]int) (pfaffian, hafnian int) {
	for _, list := range perfect {
		product := 1
		for _, e := range list {
			product *= t[e[0]][e[1]]
		}
		hafnian += product
		if crossings(list)%2 == 1 {
			product = -product
		}
		pfaffian += product
	}
	return pfaffian, hafnian
}

// drawer returns a function that draws numbers below another one, always the same ones in turn.
func drawer(seed uint64) func(below int) int {
	return func(below int) int {
		seed = seed*6364136223846793005 + 1442695040888963407
		return int(seed>>33) % below
	}
}

// uppers returns, for n rows, lists of what may stand above the numbers between a row and itself: the limits, zeros, and numbers drawn from few and from many.
func uppers(n int) [][]int {
	places := n * (n - 1) / 2
	var lists [][]int
	for _, number := range []int{0, 1, -1, 15, -15, 16, termMax - 1, termMax, -termMax} {
		lists = append(lists, repeated(number, places))
	}
	for i := range places {
		list := make([]int, places)
		list[i] = termMax - i
		lists = append(lists, list)
	}
	draw := drawer(uint64(n))
	for i := range 60 {
		size := []int{1, 3, 15, termMax}[i%4]
		list := make([]int, places)
		for j := range list {
			list[j] = draw(2*size+1) - size
		}
		lists = append(lists, list)
	}
	return lists
}

// mirroredTables returns tables of 1 to 6 rows in which each number is the one across times another number.
func mirroredTables(times int) [][][]int {
	var tables [][][]int
	for n := 1; n <= rowsMax; n++ {
		for _, upper := range uppers(n) {
			tables = append(tables, mirrored(n, upper, times))
		}
	}
	return tables
}

func skewTables() [][][]int {
	return mirroredTables(-1)
}

func evenTables() [][][]int {
	return mirroredTables(1)
}

// spoiledTables returns, of some tables, all that have one number by 1 or 2 less than they had, if this is within the limits: no such one is skew or even if they were.
func spoiledTables(tables [][][]int) [][][]int {
	var spoiled [][][]int
	for i, t := range tables {
		for row := range t {
			for column, number := range t[row] {
				if less := number - 1 - i%2; less >= -termMax {
					spoiled = append(spoiled, withNumber(t, row, column, less))
				}
			}
		}
	}
	return spoiled
}

// plainTables returns all tables of one row, all of two rows with a few numbers, and of up to 6 rows such with the limits, with many zeros, and drawn ones.
func plainTables() [][][]int {
	var tables [][][]int
	for number := -termMax; number <= termMax; number++ {
		tables = append(tables, [][]int{{number}})
	}
	few := []int{-termMax, -1, 0, 1, termMax}
	for i := range 625 {
		tables = append(tables, [][]int{{few[i%5], few[i/5%5]}, {few[i/25%5], few[i/125]}})
	}
	draw := drawer(99)
	for n := 1; n <= rowsMax; n++ {
		for _, number := range []int{0, 1, -1, 15, 16, termMax, -termMax} {
			tables = append(tables, tableOf(n, func(int, int) int { return number }))
			tables = append(tables, tableOf(n, func(row, column int) int { return number * (1 - min(1, (row-column)*(row-column))) }))
		}
		for i := range 30 {
			size := []int{1, 3, termMax}[i%3]
			tables = append(tables, tableOf(n, func(int, int) int { return draw(2*size+1) - size }))
		}
	}
	return tables
}

// sampleTables returns skew, even and other tables.
func sampleTables() [][][]int {
	return slices.Concat(plainTables(), skewTables(), evenTables())
}

// badTables returns lists of lists that are no tables, by what is wrong with them.
func badTables() map[string][][]int {
	return badSquares(termMax)
}

// badSquares returns lists of lists that are not 1 to 6 rows of as many numbers up to a limit in size, by what is wrong with them.
func badSquares(limit int) map[string][][]int {
	const far, least = 1 << 62, -1 << 63
	zeros := func(rows, columns int) [][]int {
		t := make([][]int, rows)
		for row := range t {
			t[row] = make([]int, columns)
		}
		return t
	}
	bad := map[string][][]int{
		"nil list":                           nil,
		"no rows":                            {},
		"an empty row":                       {{}},
		"a nil row":                          {nil},
		"6 empty rows":                       zeros(6, 0),
		"7 rows":                             zeros(7, 7),
		"8 rows":                             zeros(8, 8),
		"7 rows of 6 numbers":                zeros(7, 6),
		"6 rows of 7 numbers":                zeros(6, 7),
		"very many rows":                     zeros(2000, 6),
		"very long rows":                     zeros(6, 2000),
		"one row of two numbers":             {{0, 0}},
		"two rows of one number":             {{0}, {0}},
		"two rows of three numbers":          zeros(2, 3),
		"three rows of two numbers":          zeros(3, 2),
		"a shorter first row":                {{0}, {0, 0}},
		"a shorter last row":                 {{0, 1}, {-1}},
		"a shorter row between":              {{0, 0, 0}, {0, 0}, {0, 0, 0}},
		"a longer first row":                 {{0, 0, 0}, {0, 0}},
		"a longer last row":                  {{0, 1}, {1, 0, 0}},
		"a nil last row":                     {{0, 0}, nil},
		"rows with as many numbers together": {{0, 0, 0}, {0}},
		"the steps of a stair":               {{0}, {1, 0}, {1, 1, 0}},
		"a skew one beyond the limit":        {{0, limit + 1}, {-limit - 1, 0}},
		"an even one beyond the limit":       {{0, limit + 1}, {limit + 1, 0}},
		"an even one below the limit":        {{0, -limit - 1}, {-limit - 1, 0}},
		// The least number is its own one with the sign turned.
		"the least number across":          {{0, least}, {least, 0}},
		"the least number of one row":      {{least}},
		"the numbers of a 0 and far bits":  {{1 << 32, 1 << 40}, {-1 << 40, far}},
		"the greatest number and one more": {{0, 1<<63 - 1}, {-1<<63 + 1, 0}},
	}
	for name, number := range map[string]int{"one more than the limit": limit + 1, "one less than the limit with the sign turned": -limit - 1, "a far number": far, "the least number": least} {
		bad[name+" alone"] = [][]int{{number}}
		bad[name+" first"] = withNumber(zeros(6, 6), 0, 0, number)
		bad[name+" in the first row, last"] = withNumber(zeros(6, 6), 0, 5, number)
		bad[name+" in the last row, first"] = withNumber(zeros(6, 6), 5, 0, number)
		bad[name+" between"] = withNumber(zeros(5, 5), 2, 3, number)
		bad[name+" last"] = withNumber(zeros(6, 6), 5, 5, number)
	}
	return bad
}

// pointing is a graph of at most 6 nodes, with a list of edges that are turned.
type pointing struct {
	m      matrix
	turned [][]int
}

// table returns the table of a pointing, edge by edge.
func (p pointing) table() [][]int {
	t := tableOf(len(p.m), func(int, int) int { return 0 })
	for _, e := range p.m.pairs(true) {
		from := 1
		if hasEdge(p.turned, e) {
			from = -1
		}
		t[e[0]][e[1]], t[e[1]][e[0]] = from, -from
	}
	return t
}

// chosen returns the edges whose bits are 1.
func chosen(edges [][]int, bits int) [][]int {
	taken := [][]int{}
	for i, e := range edges {
		if bits>>i&1 == 1 {
			taken = append(taken, e)
		}
	}
	return taken
}

// smallOnes returns all graphs of up to 5 nodes, and some of 6.
func smallOnes() []matrix {
	return slices.DeleteFunc(sampleGraphs(), func(m matrix) bool { return len(m) > rowsMax })
}

// pointings returns all graphs of up to 4 nodes with all lists of turned edges, those of 5 and 6 nodes with no edge, all and some turned, in order and not.
func pointings() []pointing {
	var all []pointing
	draw := drawer(5)
	for _, m := range smallOnes() {
		edges := m.pairs(true)
		if len(m) <= 4 {
			for bits := range 1 << len(edges) {
				all = append(all, pointing{m, chosen(edges, bits)})
			}
			continue
		}
		all = append(all, pointing{m, [][]int{}}, pointing{m, edges})
		for range 3 {
			some := chosen(edges, draw(1<<15))
			backwards := slices.Clone(some)
			slices.Reverse(backwards)
			all = append(all, pointing{m, some}, pointing{m, backwards})
		}
	}
	return all
}

// areTurned reports whether all of a list are edges, none of them told twice.
func (m matrix) areTurned(list [][]int) bool {
	for i, e := range list {
		if !hasEdge(m.pairs(true), e) || hasEdge(list[:i], e) {
			return false
		}
	}
	return true
}

// badTurned returns lists that are no lists of edges of the ring of 6 nodes that are turned, by what is wrong with them: those that are no matchings, as there is no such edge, and others.
func badTurned() map[string][][]int {
	all := [][]int{{0, 1}, {0, 5}, {1, 2}, {2, 3}, {3, 4}, {4, 5}}
	bad := badMatchings()
	maps.DeleteFunc(bad, func(_ string, list [][]int) bool { return matrixOf(6, all).areTurned(list) })
	maps.Copy(bad, map[string][][]int{
		"an edge, and a list of nothing":           {{0, 1}, nil},
		"a list of nothing, and an edge":           {nil, {0, 1}},
		"no edge ahead of one not in order":        {{1, 3}, {0, 1}},
		"the greater node first, behind an edge":   {{0, 1}, {2, 1}},
		"the greater node first, ahead of an edge": {{2, 1}, {0, 1}},
		"both ways":                          {{0, 1}, {1, 0}},
		"both ways, the greater node first":  {{1, 0}, {0, 1}},
		"an edge twice":                      {{0, 1}, {0, 1}},
		"an edge three times":                {{0, 1}, {0, 1}, {0, 1}},
		"an edge twice, another one between": {{0, 5}, {1, 2}, {0, 5}},
		"all edges, and the last one again":  append(cloneLists(all), []int{4, 5}),
		"all edges, and the first one again": append(cloneLists(all), []int{0, 1}),
		"all edges, twice":                   slices.Repeat(all, 2),
		"all edges, and one that is none":    append(cloneLists(all), []int{0, 2}),
		"all edges, and the node behind":     append(cloneLists(all), []int{5, 6}),
	})
	return bad
}

// greatGraphs returns graphs with too many nodes for a table.
func greatGraphs() [][]int {
	return [][]int{make([]int, 7), make([]int, 8), graphOfBits(7, 1<<28-1).list(), full8, mixed, graphOfBits(7, 1).list()}
}

func pfaffianOf(t *testing.T, table [][]int) int {
	t.Helper()
	return must[int](t, "TablePfaffian")(impl.TablePfaffian(table))
}

func hafnianOf(t *testing.T, table [][]int) int {
	t.Helper()
	return must[int](t, "TableHafnian")(impl.TableHafnian(table))
}

func detOf(t *testing.T, table [][]int) int {
	t.Helper()
	return must[int](t, "TableDet")(impl.TableDet(table))
}

func permanentOf(t *testing.T, table [][]int) int {
	t.Helper()
	return must[int](t, "TablePermanent")(impl.TablePermanent(table))
}

func perfectCount(t *testing.T, g []int) int {
	t.Helper()
	return len(must[[][][]int](t, "MatchPerfect")(impl.MatchPerfect(g)))
}
