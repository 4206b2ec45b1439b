package tests

import (
	"slices"
	"testing"
)

// subsets returns all sets of n nodes as lists, those with the lower numbers first.
func subsets(n int) [][]int {
	sets := [][]int{{}}
	for v := range n {
		for _, s := range slices.Clone(sets) {
			sets = append(sets, append(slices.Clone(s), v))
		}
	}
	return sets
}

// isCover reports whether each edge has a node of a set.
func (m matrix) isCover(s []int) bool {
	for _, e := range m.pairs(true) {
		if !slices.Contains(s, e[0]) && !slices.Contains(s, e[1]) {
			return false
		}
	}
	return true
}

// isFree reports whether no two nodes of a set are neighbours.
func (m matrix) isFree(s []int) bool {
	for _, v := range s {
		for _, w := range s {
			if m[v][w] {
				return false
			}
		}
	}
	return true
}

// without returns the graph without a set of nodes, the others called anew.
func (m matrix) without(s []int) matrix {
	left := []int{}
	for v := range m {
		if !slices.Contains(s, v) {
			left = append(left, v)
		}
	}
	rest := bareMatrix(len(left))
	for i, v := range left {
		for j, w := range left {
			rest[i][j] = m[v][w]
		}
	}
	return rest
}

// lossOf counts the parts with an odd number of nodes without a set, less its size.
func (m matrix) lossOf(s []int) int {
	loss := -len(s)
	for _, part := range m.without(s).parts() {
		loss += len(part) % 2
	}
	return loss
}

// neighboursOf returns the nodes that have a neighbour in a set.
func (m matrix) neighboursOf(s []int) []int {
	near := []int{}
	for v := range m {
		if slices.ContainsFunc(s, func(w int) bool { return m[v][w] }) {
			near = append(near, v)
		}
	}
	return near
}

// bestSet returns the first of those sets of n nodes that fit of which the worth is greatest, and this.
func bestSet(n int, fits func(s []int) bool, worth func(s []int) int) ([]int, int) {
	var best []int
	greatest := -1000
	for _, s := range subsets(n) {
		if fits(s) && worth(s) > greatest {
			best, greatest = s, worth(s)
		}
	}
	return best, greatest
}

func (m matrix) leastCover() []int {
	cover, _ := bestSet(len(m), m.isCover, func(s []int) int { return -len(s) })
	return cover
}

func (m matrix) mostFree() []int {
	free, _ := bestSet(len(m), m.isFree, func(s []int) int { return len(s) })
	return free
}

func (m matrix) tutte() ([]int, int) {
	return bestSet(len(m), func([]int) bool { return true }, m.lossOf)
}

// hall returns the set of the left side with the fewest neighbours as compared with it, and the difference; it fails for a graph without sides.
func (m matrix) hall() ([]int, int, bool) {
	left, ok := m.sides()
	if !ok {
		return nil, 0, false
	}
	inside := func(s []int) bool {
		return !slices.ContainsFunc(s, func(v int) bool { return !slices.Contains(left, v) })
	}
	s, worth := bestSet(len(m), inside, func(s []int) int { return len(s) - len(m.neighboursOf(s)) })
	return s, worth, true
}

// edgeCover returns the fewest edges that have all nodes: step by step, with an edge more, it takes all sets of nodes that are reached. It fails if a node has no neighbours.
func (m matrix) edgeCover() (int, bool) {
	reached, pairs := map[int]bool{0: true}, m.pairs(true)
	for edges := 0; edges <= len(m); edges++ {
		if reached[1<<len(m)-1] {
			return edges, true
		}
		more := map[int]bool{}
		for set := range reached {
			for _, e := range pairs {
				more[set|1<<e[0]|1<<e[1]] = true
			}
		}
		reached = more
	}
	return 0, false
}

// greatestOnes returns all greatest matchings.
func (m matrix) greatestOnes() [][][]int {
	all := m.matchings()
	return ofSize(all, len(numbersOf(all))-1)
}

// three returns the three sets, by all greatest matchings.
func (m matrix) three() (first, second, third []int) {
	greatest := m.greatestOnes()
	for v := range m {
		if slices.ContainsFunc(greatest, func(list [][]int) bool { return slices.Contains(missedBy(list, len(m)), v) }) {
			first = append(first, v)
		}
	}
	near := m.neighboursOf(first)
	for v := range m {
		switch {
		case slices.Contains(first, v):
		case slices.Contains(near, v):
			second = append(second, v)
		default:
			third = append(third, v)
		}
	}
	return first, second, third
}

// isCritical reports whether there is one node, or the rest has a perfect matching whichever one is taken out.
func (m matrix) isCritical() bool {
	for v := range m {
		rest := m.without([]int{v})
		if len(m) > 1 && len(perfectOf(rest.matchings(), len(rest))) == 0 {
			return false
		}
	}
	return true
}

// badSets returns numbers that are no sets of n nodes, by what is wrong with them.
func badSets(n int) map[string]int {
	const least = -1 << 63
	return map[string]int{
		"a negative number":                    -1,
		"a negative number without the node 0": -2,
		"a negative number without low bits":   -256,
		"the least number":                     least,
		"the least number and the node 0":      least + 1,
		"the least number and all nodes":       least + 1<<n - 1,
		"the node behind the last one":         1 << n,
		"all nodes and one behind":             1<<(n+1) - 1,
		"two nodes behind":                     3 << n,
		"a node far behind":                    1 << 62,
		"all nodes and one far behind":         1<<62 + 1<<n - 1,
		"the node 32":                          1 << 32,
		"all bits but that of the sign":        1<<63 - 1,
	}
}

// inSets reports whether a number, as a set, has a node.
func inSets(set, v int) bool {
	return set>>v&1 == 1
}

// nodesIn counts the nodes of a set of at most 8.
func nodesIn(set int) int {
	nodes := 0
	for v := range 8 {
		if inSets(set, v) {
			nodes++
		}
	}
	return nodes
}

func matrixOf(n int, edges [][]int) matrix {
	m := bareMatrix(n)
	for _, e := range edges {
		m.link(e[0], e[1])
	}
	return m
}

// coverCase is a graph with what is told of it: sets as numbers, -1 where a function fails.
type coverCase struct {
	what               string
	g                  []int
	cover, free, edges int
	tutte, loss        int
	three              [3]int
	critical, konig    bool
	hall, difference   int
}

// coverCases have graphs with nodes without neighbours, of 8 nodes, full ones, such of several parts, with and without a perfect matching.
func coverCases() []coverCase {
	spider := matrixOf(8, [][]int{{0, 1}, {1, 2}, {1, 3}, {2, 3}, {0, 4}, {4, 5}, {4, 6}, {5, 6}, {0, 7}}).list()
	return []coverCase{
		{"one node", []int{0}, 0, 1, -1, 0, 1, [3]int{1, 0, 0}, true, true, 1, 1},
		{"two nodes without edges", []int{0, 0}, 0, 3, -1, 0, 2, [3]int{3, 0, 0}, false, true, 3, 2},
		{"3 nodes without edges", make([]int, 3), 0, 7, -1, 0, 3, [3]int{7, 0, 0}, false, true, 7, 3},
		{"8 nodes without edges", make([]int, 8), 0, 255, -1, 0, 8, [3]int{255, 0, 0}, false, true, 255, 8},
		{"an edge", []int{2, 1}, 1, 1, 1, 0, 0, [3]int{0, 0, 3}, false, true, 0, 0},
		{"an edge and a node alone", []int{2, 1, 0}, 1, 5, -1, 0, 1, [3]int{4, 0, 3}, false, true, 4, 1},
		{"a node alone and an edge", []int{0, 4, 2}, 2, 3, -1, 0, 1, [3]int{1, 0, 6}, false, true, 1, 1},
		{"two edges", []int{2, 1, 8, 4}, 5, 5, 2, 0, 0, [3]int{0, 0, 15}, false, true, 0, 0},
		{"a ring of 3", []int{6, 5, 3}, 3, 1, 2, 0, 1, [3]int{7, 0, 0}, true, false, -1, -1},
		{"a ring of 3 and a node alone", []int{6, 5, 3, 0}, 3, 9, -1, 0, 2, [3]int{15, 0, 0}, false, false, -1, -1},
		{"a way of 4", []int{2, 5, 10, 4}, 5, 5, 2, 0, 0, [3]int{0, 0, 15}, false, true, 0, 0},
		{"a way of 5", []int{2, 5, 10, 20, 8}, 10, 21, 3, 0, 1, [3]int{21, 10, 0}, false, true, 21, 1},
		{"a ring of 5", []int{18, 5, 10, 20, 9}, 11, 5, 3, 0, 1, [3]int{31, 0, 0}, true, false, -1, -1},
		{"a ring of 6", ring6, 21, 21, 3, 0, 0, [3]int{0, 0, 63}, false, true, 0, 0},
		{"a ring of 7", []int{66, 5, 10, 20, 40, 80, 33}, 43, 21, 4, 0, 1, [3]int{127, 0, 0}, true, false, -1, -1},
		{"a ring of 8", []int{130, 5, 10, 20, 40, 80, 160, 65}, 85, 85, 4, 0, 0, [3]int{0, 0, 255}, false, true, 0, 0},
		{"the full graph of 4", full4, 7, 1, 2, 0, 0, [3]int{0, 0, 15}, false, false, -1, -1},
		{"the full graph of 7", []int{126, 125, 123, 119, 111, 95, 63}, 63, 1, 4, 0, 1, [3]int{127, 0, 0}, true, false, -1, -1},
		{"the full graph of 8", full8, 127, 1, 4, 0, 0, [3]int{0, 0, 255}, false, false, -1, -1},
		{"a star of 4", []int{14, 1, 1, 1}, 1, 14, 3, 1, 2, [3]int{14, 1, 0}, false, true, 0, 0},
		{"a star around the last node", []int{16, 16, 16, 16, 15}, 16, 15, 4, 16, 3, [3]int{15, 16, 0}, false, true, 15, 3},
		{"a star of 8", []int{254, 1, 1, 1, 1, 1, 1, 1}, 1, 254, 7, 1, 6, [3]int{254, 1, 0}, false, true, 0, 0},
		{"a way that is not straight", crooked, 3, 6, 2, 0, 0, [3]int{0, 0, 15}, false, true, 0, 0},
		{"two rings of 3 at one node", []int{6, 5, 27, 20, 12}, 13, 9, 3, 0, 1, [3]int{31, 0, 0}, true, false, -1, -1},
		{"two rings of 3", []int{6, 5, 3, 48, 40, 24}, 27, 9, 4, 0, 2, [3]int{63, 0, 0}, false, false, -1, -1},
		{"three and five", []int{248, 248, 248, 7, 7, 7, 7, 7}, 7, 248, 5, 7, 2, [3]int{248, 7, 0}, false, true, 0, 0},
		{"four and four", []int{240, 240, 240, 240, 15, 15, 15, 15}, 15, 15, 4, 0, 0, [3]int{0, 0, 255}, false, true, 0, 0},
		// The node 0 links the rings 123 and 456 and the node 7.
		{"two rings and a node at another one", spider, 55, 37, 5, 1, 2, [3]int{254, 1, 0}, false, false, -1, -1},
		{"several parts", mixed, 43, 153, 5, 0, 2, [3]int{151, 32, 72}, false, false, -1, -1},
	}
}

// wantSet checks a set and a number that a function returned with true.
func wantSet(t *testing.T, what string, set, number int, ok bool, wantSet, wantNumber int) {
	t.Helper()
	if !ok || set != wantSet || number != wantNumber {
		t.Errorf("%s: got %d, %d, %v, want %d, %d, true", what, set, number, ok, wantSet, wantNumber)
	}
}

// wantNoSet checks that a function failed, with zeros beside the false.
func wantNoSet(t *testing.T, what string, set, number int, ok bool) {
	t.Helper()
	if ok || set != 0 || number != 0 {
		t.Errorf("%s: got %d, %d, %v, want it to fail", what, set, number, ok)
	}
}
