package tests

import (
	"slices"
	"testing"
)

// matrix is a graph as the tests keep it: whether two nodes are neighbours. It shares no idea with the program's sets.
type matrix [][]bool

func bareMatrix(n int) matrix {
	m := make(matrix, n)
	for v := range m {
		m[v] = make([]bool, n)
	}
	return m
}

func (m matrix) link(a, b int) {
	m[a][b], m[b][a] = true, true
}

// list tells the matrix as a list of sets, by adding up powers of 2.
func (m matrix) list() []int {
	list := make([]int, len(m))
	for v, row := range m {
		power := 1
		for _, near := range row {
			if near {
				list[v] += power
			}
			power *= 2
		}
	}
	return list
}

func (m matrix) pairs(near bool) [][]int {
	pairs := [][]int{}
	for a := range m {
		for b := a + 1; b < len(m); b++ {
			if m[a][b] == near {
				pairs = append(pairs, []int{a, b})
			}
		}
	}
	return pairs
}

// distances returns the number of steps from a node to each one, -1 for none.
func (m matrix) distances(from int) []int {
	far := make([]int, len(m))
	for v := range far {
		far[v] = -1
	}
	far[from] = 0
	queue := []int{from}
	for len(queue) > 0 {
		v := queue[0]
		queue = queue[1:]
		for w, near := range m[v] {
			if near && far[w] < 0 {
				far[w] = far[v] + 1
				queue = append(queue, w)
			}
		}
	}
	return far
}

// parts returns the parts in the order of their lowest nodes, as lists of nodes.
func (m matrix) parts() [][]int {
	parts := [][]int{}
	for v := range m {
		part := []int{}
		for w, far := range m.distances(v) {
			if far >= 0 {
				part = append(part, w)
			}
		}
		if part[0] == v {
			parts = append(parts, part)
		}
	}
	return parts
}

// sides returns the left side as a list of nodes; it fails if an edge stays inside of a side.
func (m matrix) sides() ([]int, bool) {
	isLeft := make([]bool, len(m))
	for _, part := range m.parts() {
		for w, far := range m.distances(part[0]) {
			if far >= 0 && far%2 == 0 {
				isLeft[w] = true
			}
		}
	}
	left := []int{}
	for v := range m {
		if isLeft[v] {
			left = append(left, v)
		}
	}
	for _, e := range m.pairs(true) {
		if isLeft[e[0]] == isLeft[e[1]] {
			return nil, false
		}
	}
	return left, true
}

// setOf adds up the powers of 2 of some nodes.
func setOf(nodes []int) int {
	set := 0
	for _, v := range nodes {
		set += 1 << v
	}
	return set
}

// graphOfBits returns the graph with n nodes whose pairs, in order, are neighbours where a bit is 1.
func graphOfBits(n int, bits uint64) matrix {
	m := bareMatrix(n)
	for i, e := range m.pairs(false) {
		if bits>>i&1 == 1 {
			m.link(e[0], e[1])
		}
	}
	return m
}

// sampleGraphs returns all graphs of up to 5 nodes, and for 6 to 8 nodes the bare and the full one and some between.
func sampleGraphs() []matrix {
	var graphs []matrix
	for n := 1; n <= 5; n++ {
		for bits := range uint64(1) << (n * (n - 1) / 2) {
			graphs = append(graphs, graphOfBits(n, bits))
		}
	}
	next := uint64(1)
	word := func() uint64 {
		next = next*6364136223846793005 + 1442695040888963407
		return next >> 33
	}
	for n := 6; n <= 8; n++ {
		graphs = append(graphs, graphOfBits(n, 0), graphOfBits(n, 1<<28-1))
		for range 150 {
			a, b, c := word(), word(), word()
			// Few edges, so that there are several parts and sides; about half of them; many.
			graphs = append(graphs, graphOfBits(n, a&b&c), graphOfBits(n, a), graphOfBits(n, a|b))
		}
	}
	return graphs
}

// badGraphs returns lists that are no graphs, by what is wrong with them.
func badGraphs() map[string][]int {
	least := -int(^uint(0)>>1) - 1
	return map[string][]int{
		"nil list":                            nil,
		"empty list":                          {},
		"nine nodes":                          make([]int, 9),
		"nine nodes, linked":                  {2, 1, 0, 0, 0, 0, 0, 0, 0},
		"negative set":                        {-1},
		"negative set behind":                 {2, 1, -4},
		"negative set of the highest bit":     {least, 0},
		"negative set with the neighbours":    {least + 2, 1},
		"its own neighbour":                   {1},
		"its own neighbour behind":            {2, 3},
		"its own neighbour, last":             {0, 0, 4},
		"not the other way, first":            {2, 0},
		"not the other way, second":           {0, 1},
		"not the other way, within a ring":    {10, 5, 10, 4},
		"a node that the graph does not have": {2},
		"the node behind the last one":        {4, 0},
		"a node far behind":                   {1 << 62, 0},
		"a ninth node of eight":               {256, 0, 0, 0, 0, 0, 0, 0},
	}
}

// spread returns a copy of a list with room behind it, filled, and a check that neither has changed.
func spread(t *testing.T, what string, list []int) ([]int, func()) {
	t.Helper()
	const mark = 77
	room := append(slices.Clone(list), mark, mark, mark)
	return room[:len(list)], func() {
		t.Helper()
		if !slices.Equal(room, append(slices.Clone(list), mark, mark, mark)) {
			t.Errorf("%s: the argument %v, with the room behind it, became %v", what, list, room)
		}
	}
}

// spoil overwrites a list with all the room that it has.
func spoil(list []int) {
	list = list[:cap(list)]
	for i := range list {
		list[i] = -99
	}
}

func sameLists(a, b [][]int) bool {
	return slices.EqualFunc(a, b, slices.Equal[[]int])
}
