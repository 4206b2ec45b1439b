package tests

import (
	"cmp"
	"slices"
	"sync"
	"testing"

	"loop.example/matchpolys/impl"
)

// forceMax is the greatest force of a spectrum, as the document tells it.
const forceMax = 4

// Graphs of 4 to 8 nodes that several tests use.
var (
	ring4 = []int{10, 5, 10, 5}
	ring8 = []int{130, 5, 10, 20, 40, 80, 160, 65}
	// Two rings of 4 beside each other, of all even and all odd nodes.
	twoRings = []int{68, 136, 17, 34, 68, 136, 17, 34}
	// Two ways of 4 with a rung at each node.
	ladder = []int{18, 37, 74, 132, 33, 82, 164, 72}
	// The corners of a cube.
	cube = []int{22, 41, 73, 134, 97, 146, 148, 104}
	// Each of the first four nodes has as neighbours those of the last four that are at least 4 greater: ten edges, and one perfect matching.
	stairs = []int{240, 224, 192, 128, 1, 3, 7, 15}
	// Two triangles, with an edge from each node of the first one to one of the second one.
	prism = []int{14, 21, 35, 49, 42, 28}
	// Each perfect matching is forced by one of its edges: the first one, the last one or one between.
	forcedByOne = []int{206, 65, 209, 241, 76, 136, 159, 109}
)

// matrixOfList reads a graph from a list of sets.
func matrixOfList(list []int) matrix {
	m := bareMatrix(len(list))
	for v, set := range list {
		for w := range list {
			m[v][w] = inSets(set, w)
		}
	}
	return m
}

// forcedSample is a graph with all its perfect matchings, and which of these are near.
type forcedSample struct {
	m       matrix
	g       []int
	perfect [][][]int
	near    matrix
}

func forcedSampleOf(m matrix) forcedSample {
	s := forcedSample{m: m, g: m.list(), perfect: perfectOf(m.matchings(), len(m))}
	s.near = bareMatrix(len(s.perfect))
	for i, first := range s.perfect {
		for j, second := range s.perfect[:i] {
			if ways, rings := exchange(len(m), first, second); ways == 0 && rings == 1 {
				s.near.link(i, j)
			}
		}
	}
	return s
}

// forces reports whether no other perfect matching has all edges of a set.
func (s forcedSample) forces(m, set [][]int) bool {
	for _, other := range s.perfect {
		hasAll := !slices.ContainsFunc(set, func(e []int) bool { return !hasEdge(other, e) })
		if hasAll && !sameLists(other, m) {
			return false
		}
	}
	return true
}

// setsOf returns all sets of the edges of a matching, those of fewer edges first, and those of as many in the order of lists.
func setsOf(m [][]int) [][][]int {
	sets := [][][]int{}
	for bits := range 1 << len(m) {
		sets = append(sets, chosen(m, bits))
	}
	slices.SortFunc(sets, func(a, b [][]int) int {
		return cmp.Or(cmp.Compare(len(a), len(b)), slices.CompareFunc(a, b, slices.Compare[[]int]))
	})
	return sets
}

// forcing returns the first set with the fewest edges that forces a matching.
func (s forcedSample) forcing(m [][]int) [][]int {
	sets := setsOf(m)
	return sets[slices.IndexFunc(sets, func(set [][]int) bool { return s.forces(m, set) })]
}

// nearTo returns the indexes of the perfect matchings that are near to one of them.
func (s forcedSample) nearTo(i int) []int {
	near := []int{}
	for j, isNear := range s.near[i] {
		if isNear {
			near = append(near, j)
		}
	}
	return near
}

// blocks returns the parts of the graph of all edges of the perfect matchings.
func (s forcedSample) blocks() []int {
	blocks := []int{}
	for _, part := range matrixOf(len(s.m), slices.Concat(s.perfect...)).parts() {
		blocks = append(blocks, setOf(part))
	}
	return blocks
}

// drawnGraphs returns graphs of n nodes with a drawn perfect matching, and few to many other edges.
func drawnGraphs(n, times int) []matrix {
	var graphs []matrix
	draw := drawer(uint64(n))
	for many := range 4 {
		for range times {
			nodes := []int{}
			for v := range n {
				nodes = slices.Insert(nodes, draw(v+1), v)
			}
			m := bareMatrix(n)
			for pair := range slices.Chunk(nodes, 2) {
				m.link(pair[0], pair[1])
			}
			for _, e := range m.pairs(false) {
				if draw(5) <= many {
					m.link(e[0], e[1])
				}
			}
			graphs = append(graphs, m)
		}
	}
	return graphs
}

// forcedSamples are all graphs of up to 4 nodes, the ones told by hand, such without a perfect matching among them, and drawn ones of 6 and 8 nodes with one. No test changes them.
var forcedSamples = sync.OnceValue(func() []forcedSample {
	graphs := slices.Concat(smallGraphs(4), drawnGraphs(6, 25), drawnGraphs(8, 25))
	for _, f := range forcedGraphs() {
		graphs = append(graphs, matrixOfList(f.g))
	}
	var samples []forcedSample
	for _, m := range graphs {
		samples = append(samples, forcedSampleOf(m))
	}
	return samples
})

// forcedGraph is a graph with what is told of it: no steps (-1) and no blocks if it has no perfect matching.
type forcedGraph struct {
	what     string
	g        []int
	steps    int
	blocks   []int
	spectrum []int
}

// forcedGraphs have graphs with one perfect matching and with many, such of several parts, and such without one.
func forcedGraphs() []forcedGraph {
	one, none := []int{1, 0, 0, 0, 0}, []int{0, 0, 0, 0, 0}
	return []forcedGraph{
		{"an edge", []int{2, 1}, 0, []int{3}, one},
		{"two edges", []int{2, 1, 8, 4}, 0, []int{3, 12}, one},
		{"a way of 4", []int{2, 5, 10, 4}, 0, []int{3, 12}, one},
		{"a way of 8", []int{2, 5, 10, 20, 40, 80, 160, 64}, 0, []int{3, 12, 48, 192}, one},
		{"a way that is not straight", crooked, 0, []int{5, 10}, one},
		{"four edges", []int{2, 1, 8, 4, 32, 16, 128, 64}, 0, []int{3, 12, 48, 192}, one},
		{"four edges, one around the other", []int{128, 64, 32, 16, 8, 4, 2, 1}, 0, []int{129, 66, 36, 24}, one},
		{"stairs", stairs, 0, []int{17, 34, 68, 136}, one},
		{"two triangles and a way, linked", []int{70, 5, 11, 52, 40, 24, 129, 64}, 0, []int{3, 12, 48, 192}, one},
		{"a ring of 4", ring4, 1, []int{15}, []int{0, 2, 0, 0, 0}},
		{"a ring of 6", ring6, 1, []int{63}, []int{0, 2, 0, 0, 0}},
		{"a ring of 8", ring8, 1, []int{255}, []int{0, 2, 0, 0, 0}},
		{"the full graph of 4", full4, 1, []int{15}, []int{0, 3, 0, 0, 0}},
		{"the full graph of 6", []int{62, 61, 59, 55, 47, 31}, 1, []int{63}, []int{0, 0, 15, 0, 0}},
		{"the full graph of 8", full8, 2, []int{255}, []int{0, 0, 0, 105, 0}},
		{"three and three", []int{56, 56, 56, 7, 7, 7}, 1, []int{63}, []int{0, 0, 6, 0, 0}},
		{"four and four", []int{240, 240, 240, 240, 15, 15, 15, 15}, 2, []int{255}, []int{0, 0, 0, 24, 0}},
		{"a ladder of 6", []int{10, 21, 34, 17, 42, 20}, 1, []int{63}, []int{0, 3, 0, 0, 0}},
		{"a ladder of 8", ladder, 2, []int{255}, []int{0, 1, 4, 0, 0}},
		{"a cube", cube, 2, []int{255}, []int{0, 0, 9, 0, 0}},
		{"a prism", prism, 1, []int{63}, []int{0, 3, 1, 0, 0}},
		{"forced by one edge", forcedByOne, 1, []int{255}, []int{0, 7, 0, 0, 0}},
		{"forced by one or two edges", []int{222, 213, 251, 133, 199, 196, 183, 127}, 1, []int{255}, []int{0, 5, 16, 0, 0}},
		{"forced by two or three edges", []int{222, 237, 251, 247, 173, 222, 47, 63}, 1, []int{255}, []int{0, 0, 22, 34, 0}},
		{"linked, but two blocks", []int{102, 213, 163, 64, 226, 21, 155, 86}, 1, []int{183, 72}, []int{0, 4, 1, 0, 0}},
		{"two rings of 4", []int{10, 5, 10, 5, 160, 80, 160, 80}, 2, []int{15, 240}, []int{0, 0, 4, 0, 0}},
		{"two rings of 4, linked", []int{10, 5, 10, 21, 168, 80, 160, 80}, 2, []int{15, 240}, []int{0, 0, 4, 0, 0}},
		{"two rings of 4, node by node", twoRings, 2, []int{85, 170}, []int{0, 0, 4, 0, 0}},
		{"two full graphs of 4", []int{14, 13, 11, 7, 224, 208, 176, 112}, 2, []int{15, 240}, []int{0, 0, 9, 0, 0}},
		{"an edge and a ring of 4", []int{2, 1, 40, 20, 40, 20}, 1, []int{3, 60}, []int{0, 2, 0, 0, 0}},
		{"an edge around a ring of 6", []int{128, 68, 10, 20, 40, 80, 34, 1}, 1, []int{129, 126}, []int{0, 2, 0, 0, 0}},
		{"a full graph of 6 and an edge", []int{62, 61, 59, 55, 47, 31, 128, 64}, 1, []int{63, 192}, []int{0, 0, 15, 0, 0}},
		{"a ring of 4 and a way, linked", []int{10, 5, 10, 21, 40, 16}, 1, []int{15, 48}, []int{0, 2, 0, 0, 0}},
		{"one node", []int{0}, -1, nil, none},
		{"two nodes without edges", []int{0, 0}, -1, nil, none},
		{"8 nodes without edges", make([]int, 8), -1, nil, none},
		{"an edge and a node alone", []int{2, 1, 0}, -1, nil, none},
		{"an edge and two nodes alone", []int{2, 1, 0, 0}, -1, nil, none},
		{"a triangle", []int{6, 5, 3}, -1, nil, none},
		{"two triangles", []int{6, 5, 3, 48, 40, 24}, -1, nil, none},
		{"a triangle and a node alone", []int{6, 5, 3, 0}, -1, nil, none},
		{"a star of 4", []int{14, 1, 1, 1}, -1, nil, none},
		{"a star of 8", []int{254, 1, 1, 1, 1, 1, 1, 1}, -1, nil, none},
		{"three and five", []int{248, 248, 248, 7, 7, 7, 7, 7}, -1, nil, none},
		{"a ring of 7", []int{66, 5, 10, 20, 40, 80, 33}, -1, nil, none},
		{"the full graph of 7", []int{126, 125, 123, 119, 111, 95, 63}, -1, nil, none},
		{"several parts with a triangle", mixed, -1, nil, none},
	}
}

// badPerfect returns lists that are no perfect matchings of the ring of 6 nodes, by what is wrong with them: no matchings, or such that miss nodes.
func badPerfect() map[string][][]int {
	bad := badMatchings()
	bad["nil"] = nil
	bad["no edges"] = [][]int{}
	bad["one edge"] = [][]int{{0, 1}}
	bad["the last edge"] = [][]int{{4, 5}}
	bad["two edges"] = [][]int{{0, 1}, {2, 3}}
	bad["two edges, a node missed between"] = [][]int{{0, 1}, {3, 4}}
	bad["two edges, the first node missed"] = [][]int{{1, 2}, {3, 4}}
	bad["the first edge last"] = [][]int{{2, 3}, {4, 5}, {0, 1}}
	bad["the last edges exchanged"] = [][]int{{0, 1}, {4, 5}, {2, 3}}
	bad["the first edges exchanged"] = [][]int{{2, 3}, {0, 1}, {4, 5}}
	bad["backwards"] = [][]int{{4, 5}, {2, 3}, {0, 1}}
	bad["in order by the greater nodes"] = [][]int{{1, 2}, {3, 4}, {0, 5}}
	bad["all edges turned"] = [][]int{{1, 0}, {3, 2}, {5, 4}}
	bad["the last edge turned"] = [][]int{{0, 1}, {2, 3}, {5, 4}}
	bad["no edges of the graph"] = [][]int{{0, 3}, {1, 4}, {2, 5}}
	bad["an edge more, of nodes not there"] = [][]int{{0, 1}, {2, 3}, {4, 5}, {6, 7}}
	bad["all edges twice"] = [][]int{{0, 1}, {0, 1}, {2, 3}, {2, 3}, {4, 5}, {4, 5}}
	bad["both perfect ones"] = [][]int{{0, 1}, {0, 5}, {1, 2}, {2, 3}, {3, 4}, {4, 5}}
	bad["an empty list behind"] = [][]int{{0, 1}, {2, 3}, {4, 5}, {}}
	bad["edges of three nodes"] = [][]int{{0, 1, 1}, {2, 3, 3}, {4, 5, 5}}
	return bad
}

// badForcing returns lists that are no sets of the edges 01, 23 and 45 of the ring of 6 nodes, by what is wrong with them. Most have edges that force.
func badForcing() map[string][][]int {
	bad := badMatchings()
	bad["the edges exchanged"] = [][]int{{2, 3}, {0, 1}}
	bad["the last edge first"] = [][]int{{4, 5}, {0, 1}}
	bad["all edges, backwards"] = [][]int{{4, 5}, {2, 3}, {0, 1}}
	bad["all edges, the last ones exchanged"] = [][]int{{0, 1}, {4, 5}, {2, 3}}
	bad["one edge twice"] = [][]int{{2, 3}, {2, 3}}
	bad["the last edge twice"] = [][]int{{0, 1}, {4, 5}, {4, 5}}
	bad["all edges, the first one twice"] = [][]int{{0, 1}, {0, 1}, {2, 3}, {4, 5}}
	bad["an edge turned"] = [][]int{{3, 2}}
	bad["the last edge turned"] = [][]int{{0, 1}, {5, 4}}
	bad["an edge of the other matching"] = [][]int{{0, 5}}
	bad["another edge of the other matching"] = [][]int{{1, 2}}
	bad["an edge of each matching"] = [][]int{{0, 1}, {3, 4}}
	bad["an edge of each matching, the other one first"] = [][]int{{1, 2}, {4, 5}}
	bad["the other matching"] = [][]int{{0, 5}, {1, 2}, {3, 4}}
	bad["no edge of the graph, ahead"] = [][]int{{0, 2}, {4, 5}}
	bad["no edge of the graph, behind"] = [][]int{{0, 1}, {3, 5}}
	bad["an edge of nodes not there, behind all"] = [][]int{{0, 1}, {2, 3}, {4, 5}, {6, 7}}
	bad["an empty list behind all"] = [][]int{{0, 1}, {2, 3}, {4, 5}, {}}
	bad["an empty list ahead"] = [][]int{{}, {0, 1}}
	bad["a node more"] = [][]int{{2, 3, 4}}
	bad["very many"] = slices.Repeat([][]int{{0, 1}}, 1000)
	return bad
}

func forceOf(t *testing.T, g []int, m [][]int) int {
	t.Helper()
	return must[int](t, "ForceOf")(impl.ForceOf(g, m))
}

func forceSet(t *testing.T, g []int, m [][]int) [][]int {
	t.Helper()
	return must[[][]int](t, "ForceSet")(impl.ForceSet(g, m))
}

func forceNear(t *testing.T, g []int, m [][]int) []int {
	t.Helper()
	return must[[]int](t, "ForceNear")(impl.ForceNear(g, m))
}
