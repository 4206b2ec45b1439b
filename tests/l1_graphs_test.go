package tests

import (
	"slices"
	"testing"

	"loop.example/matchpolys/impl"
)

// wantList checks a list that a function returned with true.
func wantList(t *testing.T, what string, got []int, ok bool, want ...int) {
	t.Helper()
	if !ok || !slices.Equal(got, want) {
		t.Errorf("%s: got %v, %v, want %v, true", what, got, ok, want)
	}
}

// wantNoList checks that a function failed, with the zero value beside the false.
func wantNoList(t *testing.T, what string, got []int, ok bool) {
	t.Helper()
	if ok || len(got) != 0 {
		t.Errorf("%s: got %v, %v, want it to fail", what, got, ok)
	}
}

func wantLists(t *testing.T, what string, got [][]int, ok bool, want ...[]int) {
	t.Helper()
	if !ok || !sameLists(got, want) {
		t.Errorf("%s: got %v, %v, want %v, true", what, got, ok, want)
	}
}

// must returns a result that has to be told.
func must[T any](t *testing.T, what string) func(T, bool) T {
	return func(got T, ok bool) T {
		t.Helper()
		if !ok {
			t.Errorf("%s fails", what)
		}
		return got
	}
}

func edgesOf(t *testing.T, g []int) [][]int {
	t.Helper()
	return must[[][]int](t, "GraphEdges")(impl.GraphEdges(g))
}

func partsOf(t *testing.T, g []int) []int {
	t.Helper()
	return must[[]int](t, "GraphParts")(impl.GraphParts(g))
}

func otherOf(t *testing.T, g []int) []int {
	t.Helper()
	return must[[]int](t, "GraphOther")(impl.GraphOther(g))
}

func TestNodesMax(t *testing.T) {
	const want = 8
	if impl.NodesMax != want {
		t.Errorf("NodesMax is %d, want %d", impl.NodesMax, want)
	}
}

func TestGraphIn(t *testing.T) {
	good := [][]int{{0}, {0, 0}, {2, 1}, {6, 1, 1}, {2, 5, 2}, {6, 5, 3}, {8, 4, 2, 1}, {0, 0, 0, 0, 0, 0, 0, 0}, {254, 253, 251, 247, 239, 223, 191, 127}, {128, 0, 0, 0, 0, 0, 0, 1}}
	for _, g := range good {
		if !impl.GraphIn(g) {
			t.Errorf("GraphIn(%v) does not hold", g)
		}
	}
	for what, g := range badGraphs() {
		if impl.GraphIn(g) {
			t.Errorf("GraphIn of %s, %v, holds", what, g)
		}
	}
}

// TestGraphInAll holds GraphIn against the list of all graphs, for all lists of up to 4 small numbers.
func TestGraphInAll(t *testing.T) {
	graphs := [][]int{}
	for n := 1; n <= 4; n++ {
		for bits := range uint64(1) << (n * (n - 1) / 2) {
			graphs = append(graphs, graphOfBits(n, bits).list())
		}
	}
	held := 0
	var try func(list []int)
	try = func(list []int) {
		want := slices.ContainsFunc(graphs, func(g []int) bool { return slices.Equal(g, list) })
		if impl.GraphIn(list) != want {
			t.Errorf("GraphIn(%v) is %v", list, !want)
		}
		if want {
			held++
		}
		if len(list) == 4 {
			return
		}
		for s := -1; s <= 16; s++ {
			try(append(slices.Clone(list), s))
		}
	}
	try(nil)
	if held != len(graphs) {
		t.Errorf("GraphIn holds for %d lists, want %d", held, len(graphs))
	}
}

// TestPromise1 reads each graph from its edges again.
func TestPromise1(t *testing.T) {
	for _, m := range sampleGraphs() {
		g := m.list()
		if !impl.GraphIn(g) {
			t.Fatalf("GraphIn(%v) does not hold", g)
		}
		got, ok := impl.GraphOf(len(g), edgesOf(t, g))
		wantList(t, "GraphOf of the edges", got, ok, g...)
	}
}

func TestGraphOf(t *testing.T) {
	cases := []struct {
		n     int
		edges [][]int
		want  []int
	}{
		{1, nil, []int{0}},
		{1, [][]int{}, []int{0}},
		{8, nil, []int{0, 0, 0, 0, 0, 0, 0, 0}},
		{2, [][]int{{0, 1}}, []int{2, 1}},
		{2, [][]int{{1, 0}}, []int{2, 1}},
		{3, [][]int{{2, 0}, {0, 2}, {2, 0}, {0, 2}}, []int{4, 0, 1}},
		{4, [][]int{{3, 1}, {0, 1}, {1, 0}}, []int{2, 9, 0, 2}},
		{8, [][]int{{7, 0}, {6, 7}}, []int{128, 0, 0, 0, 0, 0, 128, 65}},
	}
	for _, c := range cases {
		got, ok := impl.GraphOf(c.n, c.edges)
		wantList(t, "GraphOf", got, ok, c.want...)
	}
}

func TestGraphOfFails(t *testing.T) {
	for _, n := range []int{0, -1, -8, 9, 10, 64, 65, 1 << 62, -1 << 63} {
		got, ok := impl.GraphOf(n, nil)
		wantNoList(t, "GraphOf of a number out of range", got, ok)
		got, ok = impl.GraphOf(n, [][]int{{0, 1}})
		wantNoList(t, "GraphOf of a number out of range with an edge", got, ok)
	}
	lists := [][]int{nil, {}, {0}, {0, 0}, {1, 1}, {0, 1, 2}, {0, 1, 1}, {0, 1, 0}, {0, 3}, {3, 0}, {-1, 0}, {0, -1}, {0, 64}, {1 << 62, 0}, {0, -1 << 63}}
	for _, list := range lists {
		for _, edges := range [][][]int{{list}, {{0, 1}, list}, {list, {0, 1}}} {
			got, ok := impl.GraphOf(3, edges)
			wantNoList(t, "GraphOf(3) with a list that is no edge", got, ok)
		}
	}
	got, ok := impl.GraphOf(1, [][]int{{0, 1}})
	wantNoList(t, "GraphOf(1) with an edge", got, ok)
	got, ok = impl.GraphOf(8, [][]int{{0, 8}})
	wantNoList(t, "GraphOf(8) with the node 8", got, ok)
}

// TestPromise2 tells each edge twice, in both orders.
func TestPromise2(t *testing.T) {
	for _, m := range sampleGraphs() {
		told := [][]int{}
		for _, e := range m.pairs(true) {
			told = append([][]int{{e[1], e[0]}}, append(told, e)...)
		}
		got, ok := impl.GraphOf(len(m), told)
		wantList(t, "GraphOf", got, ok, m.list()...)
		if !impl.GraphIn(got) || len(edgesOf(t, got)) > len(told) {
			t.Errorf("GraphOf(%d, %v) returned %v", len(m), told, got)
		}
	}
}

func TestGraphEdges(t *testing.T) {
	got, ok := impl.GraphEdges([]int{0})
	wantLists(t, "GraphEdges of one node", got, ok)
	got, ok = impl.GraphEdges(make([]int, 8))
	wantLists(t, "GraphEdges of 8 nodes without edges", got, ok)
	got, ok = impl.GraphEdges([]int{14, 13, 3, 3})
	wantLists(t, "GraphEdges", got, ok, []int{0, 1}, []int{0, 2}, []int{0, 3}, []int{1, 2}, []int{1, 3})
	got, ok = impl.GraphEdges([]int{128, 0, 0, 0, 0, 0, 128, 65})
	wantLists(t, "GraphEdges of 8 nodes", got, ok, []int{0, 7}, []int{6, 7})
	for what, g := range badGraphs() {
		if got, ok := impl.GraphEdges(g); ok || len(got) != 0 {
			t.Errorf("GraphEdges of %s: got %v, %v", what, got, ok)
		}
	}
}

func TestPromise3(t *testing.T) {
	for _, m := range sampleGraphs() {
		g := m.list()
		edges, others := edgesOf(t, g), edgesOf(t, otherOf(t, g))
		if !sameLists(edges, m.pairs(true)) {
			t.Errorf("GraphEdges(%v) returned %v", g, edges)
		}
		all := append(edges, others...)
		slices.SortFunc(all, slices.Compare[[]int])
		if !sameLists(all, bareMatrix(len(g)).pairs(false)) {
			t.Errorf("the edges of %v and of the others are %v", g, all)
		}
	}
}

func TestGraphDegrees(t *testing.T) {
	got, ok := impl.GraphDegrees([]int{0})
	wantList(t, "GraphDegrees of one node", got, ok, 0)
	got, ok = impl.GraphDegrees([]int{14, 13, 3, 3})
	wantList(t, "GraphDegrees", got, ok, 3, 3, 2, 2)
	got, ok = impl.GraphDegrees([]int{128, 0, 0, 0, 0, 0, 128, 65})
	wantList(t, "GraphDegrees of 8 nodes", got, ok, 1, 0, 0, 0, 0, 0, 1, 2)
	for what, g := range badGraphs() {
		got, ok := impl.GraphDegrees(g)
		wantNoList(t, "GraphDegrees of "+what, got, ok)
	}
}

func TestPromise4(t *testing.T) {
	for _, m := range sampleGraphs() {
		want := make([]int, len(m))
		for _, e := range m.pairs(true) {
			want[e[0]]++
			want[e[1]]++
		}
		got, ok := impl.GraphDegrees(m.list())
		wantList(t, "GraphDegrees", got, ok, want...)
		sum := 0
		for _, d := range got {
			sum += d
		}
		if edges := edgesOf(t, m.list()); sum != 2*len(edges) {
			t.Errorf("GraphDegrees(%v) add up to %d, with %d edges", m.list(), sum, len(edges))
		}
	}
}

func TestGraphWithout(t *testing.T) {
	got, ok := impl.GraphWithout([]int{0, 0}, 0)
	wantList(t, "GraphWithout of two nodes", got, ok, 0)
	got, ok = impl.GraphWithout([]int{2, 1}, 1)
	wantList(t, "GraphWithout of an edge", got, ok, 0)
	got, ok = impl.GraphWithout([]int{2, 5, 10, 4}, 0)
	wantList(t, "GraphWithout the first node", got, ok, 2, 5, 2)
	got, ok = impl.GraphWithout([]int{2, 5, 10, 4}, 2)
	wantList(t, "GraphWithout a node within", got, ok, 2, 1, 0)
	got, ok = impl.GraphWithout([]int{128, 0, 0, 0, 0, 0, 128, 65}, 7)
	wantList(t, "GraphWithout the eighth node", got, ok, 0, 0, 0, 0, 0, 0, 0)
	got, ok = impl.GraphWithout([]int{128, 0, 0, 0, 0, 0, 128, 65}, 3)
	wantList(t, "GraphWithout one of 8 nodes", got, ok, 64, 0, 0, 0, 0, 64, 33)
}

func TestGraphWithoutFails(t *testing.T) {
	for what, g := range badGraphs() {
		for _, v := range []int{0, 1, -1, 8} {
			got, ok := impl.GraphWithout(g, v)
			wantNoList(t, "GraphWithout of "+what, got, ok)
		}
	}
	for _, v := range []int{-1, 0, 1} {
		got, ok := impl.GraphWithout([]int{0}, v)
		wantNoList(t, "GraphWithout of one node", got, ok)
	}
	for _, v := range []int{-1, -64, 3, 4, 64, 1 << 62, -1 << 63} {
		got, ok := impl.GraphWithout([]int{2, 5, 2}, v)
		wantNoList(t, "GraphWithout of a node that is not there", got, ok)
	}
	got, ok := impl.GraphWithout(make([]int, 8), 8)
	wantNoList(t, "GraphWithout of the node 8", got, ok)
}

func TestPromise5(t *testing.T) {
	for _, m := range sampleGraphs() {
		if len(m) == 1 {
			continue
		}
		for v := range m {
			rest, near := bareMatrix(len(m)-1), 0
			for _, e := range m.pairs(true) {
				if e[0] == v || e[1] == v {
					near++
					continue
				}
				a, b := e[0], e[1]
				if a > v {
					a--
				}
				if b > v {
					b--
				}
				rest.link(a, b)
			}
			got, ok := impl.GraphWithout(m.list(), v)
			wantList(t, "GraphWithout", got, ok, rest.list()...)
			if len(got) != len(m)-1 || len(edgesOf(t, got)) != len(edgesOf(t, m.list()))-near {
				t.Errorf("GraphWithout(%v, %d) returned %v, with %d neighbours", m.list(), v, got, near)
			}
		}
	}
}

func TestGraphCut(t *testing.T) {
	got, ok := impl.GraphCut([]int{2, 1}, 0, 1)
	wantList(t, "GraphCut of the only edge", got, ok, 0, 0)
	got, ok = impl.GraphCut([]int{6, 5, 3}, 2, 0)
	wantList(t, "GraphCut with the greater node first", got, ok, 2, 5, 2)
	got, ok = impl.GraphCut([]int{128, 0, 0, 0, 0, 0, 128, 65}, 7, 6)
	wantList(t, "GraphCut of 8 nodes", got, ok, 128, 0, 0, 0, 0, 0, 0, 1)
}

func TestGraphCutFails(t *testing.T) {
	for what, g := range badGraphs() {
		got, ok := impl.GraphCut(g, 0, 1)
		wantNoList(t, "GraphCut of "+what, got, ok)
	}
	pairs := [][2]int{{0, 2}, {2, 0}, {0, 0}, {1, 1}, {-1, 0}, {0, -1}, {-1, -1}, {3, 1}, {1, 3}, {3, 3}, {64, 1}, {1, 64}, {1 << 62, 0}, {0, -1 << 63}}
	for _, p := range pairs {
		got, ok := impl.GraphCut([]int{2, 5, 2}, p[0], p[1])
		wantNoList(t, "GraphCut of no edge", got, ok)
	}
	got, ok := impl.GraphCut([]int{0}, 0, 0)
	wantNoList(t, "GraphCut of one node", got, ok)
}

// TestPromise6 cuts each pair of nodes, in both orders.
func TestPromise6(t *testing.T) {
	for _, m := range sampleGraphs() {
		g := m.list()
		for a := range m {
			for b := range m {
				got, ok := impl.GraphCut(g, a, b)
				if !m[a][b] {
					wantNoList(t, "GraphCut of no edge", got, ok)
					continue
				}
				if !ok || !impl.GraphIn(got) || len(edgesOf(t, got)) != len(m.pairs(true))-1 {
					t.Errorf("GraphCut(%v, %d, %d) returned %v, %v", g, a, b, got, ok)
				}
				back, fine := impl.GraphOf(len(g), append(edgesOf(t, got), []int{a, b}))
				wantList(t, "GraphOf of the edges and the one cut", back, fine, g...)
			}
		}
	}
}

func TestGraphOther(t *testing.T) {
	got, ok := impl.GraphOther([]int{0})
	wantList(t, "GraphOther of one node", got, ok, 0)
	got, ok = impl.GraphOther([]int{0, 0, 0})
	wantList(t, "GraphOther without edges", got, ok, 6, 5, 3)
	got, ok = impl.GraphOther([]int{2, 5, 10, 4})
	wantList(t, "GraphOther of a way", got, ok, 12, 8, 1, 3)
	got, ok = impl.GraphOther([]int{254, 253, 251, 247, 239, 223, 191, 127})
	wantList(t, "GraphOther of the full graph", got, ok, 0, 0, 0, 0, 0, 0, 0, 0)
	for what, g := range badGraphs() {
		got, ok := impl.GraphOther(g)
		wantNoList(t, "GraphOther of "+what, got, ok)
	}
}

func TestPromise7(t *testing.T) {
	for _, m := range sampleGraphs() {
		g := m.list()
		other := otherOf(t, g)
		if !impl.GraphIn(other) || !sameLists(edgesOf(t, other), m.pairs(false)) {
			t.Errorf("GraphOther(%v) returned %v", g, other)
		}
		if back := otherOf(t, other); !slices.Equal(back, g) {
			t.Errorf("GraphOther twice of %v returned %v", g, back)
		}
		if len(partsOf(t, g)) != 1 && len(partsOf(t, other)) != 1 {
			t.Errorf("neither %v nor %v is linked", g, other)
		}
	}
}

func TestGraphBeside(t *testing.T) {
	got, ok := impl.GraphBeside([]int{0}, []int{0})
	wantList(t, "GraphBeside of two nodes alone", got, ok, 0, 0)
	got, ok = impl.GraphBeside([]int{2, 1}, []int{2, 5, 2})
	wantList(t, "GraphBeside", got, ok, 2, 1, 8, 20, 8)
	got, ok = impl.GraphBeside([]int{2, 5, 2}, []int{2, 1})
	wantList(t, "GraphBeside the other way", got, ok, 2, 5, 2, 16, 8)
	got, ok = impl.GraphBeside([]int{14, 13, 11, 7}, []int{14, 13, 11, 7})
	wantList(t, "GraphBeside with 8 nodes", got, ok, 14, 13, 11, 7, 224, 208, 176, 112)
	g := []int{6, 5, 3}
	got, ok = impl.GraphBeside(g, g)
	wantList(t, "GraphBeside of one list twice", got, ok, 6, 5, 3, 48, 40, 24)
}

func TestGraphBesideFails(t *testing.T) {
	for what, g := range badGraphs() {
		got, ok := impl.GraphBeside(g, []int{0})
		wantNoList(t, "GraphBeside with first "+what, got, ok)
		got, ok = impl.GraphBeside([]int{0}, g)
		wantNoList(t, "GraphBeside with second "+what, got, ok)
		got, ok = impl.GraphBeside(g, g)
		wantNoList(t, "GraphBeside twice "+what, got, ok)
	}
	for n := 1; n <= 8; n++ {
		got, ok := impl.GraphBeside(make([]int, n), make([]int, 9-n))
		wantNoList(t, "GraphBeside with 9 nodes", got, ok)
		got, ok = impl.GraphBeside(make([]int, 8), make([]int, n))
		wantNoList(t, "GraphBeside with more than 8 nodes", got, ok)
	}
}

func TestPromise8(t *testing.T) {
	var small []matrix
	for n := 1; n <= 4; n++ {
		for bits := range uint64(1) << (n * (n - 1) / 2) {
			small = append(small, graphOfBits(n, bits))
		}
	}
	for _, m := range small {
		for _, k := range small {
			want := bareMatrix(len(m) + len(k))
			for _, e := range m.pairs(true) {
				want.link(e[0], e[1])
			}
			for _, e := range k.pairs(true) {
				want.link(len(m)+e[0], len(m)+e[1])
			}
			g, h := m.list(), k.list()
			got, ok := impl.GraphBeside(g, h)
			wantList(t, "GraphBeside", got, ok, want.list()...)
			if len(edgesOf(t, got)) != len(edgesOf(t, g))+len(edgesOf(t, h)) || len(partsOf(t, got)) != len(partsOf(t, g))+len(partsOf(t, h)) {
				t.Errorf("GraphBeside(%v, %v) returned %v", g, h, got)
			}
		}
	}
}

func TestGraphParts(t *testing.T) {
	got, ok := impl.GraphParts([]int{0})
	wantList(t, "GraphParts of one node", got, ok, 1)
	got, ok = impl.GraphParts(make([]int, 8))
	wantList(t, "GraphParts of 8 nodes without edges", got, ok, 1, 2, 4, 8, 16, 32, 64, 128)
	got, ok = impl.GraphParts([]int{254, 253, 251, 247, 239, 223, 191, 127})
	wantList(t, "GraphParts of the full graph", got, ok, 255)
	// The lowest nodes tell the order, not the sets as numbers: 0 and 4, 1 and 2, 3.
	got, ok = impl.GraphParts([]int{16, 4, 2, 0, 1})
	wantList(t, "GraphParts of several parts", got, ok, 17, 6, 8)
	// A way that goes up and down: 0, 7, 1, 6, and 2, 5 beside it, and 3, 4.
	got, ok = impl.GraphParts([]int{128, 192, 32, 16, 8, 4, 2, 3})
	wantList(t, "GraphParts of a way up and down", got, ok, 195, 36, 24)
	for what, g := range badGraphs() {
		got, ok := impl.GraphParts(g)
		wantNoList(t, "GraphParts of "+what, got, ok)
	}
}

func TestPromise9(t *testing.T) {
	for _, m := range sampleGraphs() {
		want := []int{}
		for _, part := range m.parts() {
			want = append(want, setOf(part))
		}
		got, ok := impl.GraphParts(m.list())
		wantList(t, "GraphParts", got, ok, want...)
		for v := range m {
			in := 0
			for _, part := range got {
				if part>>v&1 == 1 {
					in++
					if m.list()[v]&^part != 0 {
						t.Errorf("GraphParts(%v) returned %v: %d has a neighbour outside", m.list(), got, v)
					}
				}
			}
			if in != 1 {
				t.Errorf("GraphParts(%v) returned %v: %d is in %d", m.list(), got, v, in)
			}
		}
	}
}

func TestGraphSides(t *testing.T) {
	cases := []struct {
		what string
		g    []int
		want int
	}{
		{"one node", []int{0}, 1},
		{"an edge", []int{2, 1}, 1},
		{"three nodes without edges", []int{0, 0, 0}, 7},
		{"8 nodes without edges", make([]int, 8), 255},
		{"a way of 5 nodes", []int{2, 5, 10, 20, 8}, 21},
		{"a ring of 8 nodes", []int{130, 5, 10, 20, 40, 80, 160, 65}, 85},
		// Each part has its lowest node on the left: 0 and 3, 1 and 2, 4.
		{"several parts", []int{8, 4, 2, 1, 0}, 19},
		// The way 0, 3, 2, and the way 4, 1, 5 with its lowest node within.
		{"two ways", []int{8, 48, 8, 5, 2, 2}, 7},
		{"four and four", []int{240, 240, 240, 240, 15, 15, 15, 15}, 15},
	}
	for _, c := range cases {
		if got, ok := impl.GraphSides(c.g); !ok || got != c.want {
			t.Errorf("GraphSides of %s: got %d, %v, want %d", c.what, got, ok, c.want)
		}
	}
}

func TestGraphSidesFails(t *testing.T) {
	bad := badGraphs()
	bad["a ring of 3 nodes"] = []int{6, 5, 3}
	bad["a ring of 3 nodes behind a way"] = []int{2, 1, 24, 20, 12}
	bad["a ring of 7 nodes"] = []int{66, 5, 10, 20, 40, 80, 33}
	bad["a full graph of 8 nodes"] = []int{254, 253, 251, 247, 239, 223, 191, 127}
	for what, g := range bad {
		if got, ok := impl.GraphSides(g); ok || got != 0 {
			t.Errorf("GraphSides of %s: got %d, %v, want it to fail", what, got, ok)
		}
	}
}

func TestPromise10(t *testing.T) {
	for _, m := range sampleGraphs() {
		g := m.list()
		left, sides := m.sides()
		got, ok := impl.GraphSides(g)
		if ok != sides || got != setOf(left) {
			t.Errorf("GraphSides(%v) returned %d, %v", g, got, ok)
		}
		if !ok {
			continue
		}
		if got&1 == 0 {
			t.Errorf("GraphSides(%v) returned %d without the node 0", g, got)
		}
		for _, e := range edgesOf(t, g) {
			if got>>e[0]&1 == got>>e[1]&1 {
				t.Errorf("GraphSides(%v) returned %d with %v on one side", g, got, e)
			}
		}
	}
}

// badNumbers are numbers of nodes that no graph has.
var badNumbers = []int{0, -1, -2, -8, 9, 10, 63, 64, 65, 1 << 62, -1 << 63}

func TestGraphWay(t *testing.T) {
	got, ok := impl.GraphWay(1)
	wantList(t, "GraphWay(1)", got, ok, 0)
	got, ok = impl.GraphWay(2)
	wantList(t, "GraphWay(2)", got, ok, 2, 1)
	got, ok = impl.GraphWay(4)
	wantList(t, "GraphWay(4)", got, ok, 2, 5, 10, 4)
	got, ok = impl.GraphWay(8)
	wantList(t, "GraphWay(8)", got, ok, 2, 5, 10, 20, 40, 80, 160, 64)
	for _, n := range badNumbers {
		got, ok := impl.GraphWay(n)
		wantNoList(t, "GraphWay of a number out of range", got, ok)
	}
}

func TestPromise11(t *testing.T) {
	for n := 1; n <= impl.NodesMax; n++ {
		want := bareMatrix(n)
		for v := 1; v < n; v++ {
			want.link(v-1, v)
		}
		got, ok := impl.GraphWay(n)
		wantList(t, "GraphWay", got, ok, want.list()...)
		_, sides := impl.GraphSides(got)
		if len(partsOf(t, got)) != 1 || !sides || len(edgesOf(t, got)) != n-1 {
			t.Errorf("GraphWay(%d) returned %v", n, got)
		}
	}
}

func TestGraphRing(t *testing.T) {
	got, ok := impl.GraphRing(3)
	wantList(t, "GraphRing(3)", got, ok, 6, 5, 3)
	got, ok = impl.GraphRing(4)
	wantList(t, "GraphRing(4)", got, ok, 10, 5, 10, 5)
	got, ok = impl.GraphRing(8)
	wantList(t, "GraphRing(8)", got, ok, 130, 5, 10, 20, 40, 80, 160, 65)
	for _, n := range append([]int{1, 2}, badNumbers...) {
		got, ok := impl.GraphRing(n)
		wantNoList(t, "GraphRing of a number out of range", got, ok)
	}
}

func TestPromise12(t *testing.T) {
	for n := 3; n <= impl.NodesMax; n++ {
		ring, ok := impl.GraphRing(n)
		if !ok || !impl.GraphIn(ring) {
			t.Errorf("GraphRing(%d) returned %v, %v", n, ring, ok)
		}
		way := must[[]int](t, "GraphWay")(impl.GraphWay(n))
		cut, ok := impl.GraphCut(ring, 0, n-1)
		wantList(t, "GraphRing without the edge of the first and the last node", cut, ok, way...)
		if _, sides := impl.GraphSides(ring); sides != (n%2 == 0) {
			t.Errorf("GraphSides of GraphRing(%d) returned %v", n, sides)
		}
	}
}

func TestGraphFull(t *testing.T) {
	got, ok := impl.GraphFull(1)
	wantList(t, "GraphFull(1)", got, ok, 0)
	got, ok = impl.GraphFull(3)
	wantList(t, "GraphFull(3)", got, ok, 6, 5, 3)
	got, ok = impl.GraphFull(8)
	wantList(t, "GraphFull(8)", got, ok, 254, 253, 251, 247, 239, 223, 191, 127)
	for _, n := range badNumbers {
		got, ok := impl.GraphFull(n)
		wantNoList(t, "GraphFull of a number out of range", got, ok)
	}
}

func TestPromise13(t *testing.T) {
	for n := 1; n <= impl.NodesMax; n++ {
		got, ok := impl.GraphFull(n)
		if !ok || len(got) != n || !impl.GraphIn(got) || len(edgesOf(t, got)) != n*(n-1)/2 {
			t.Errorf("GraphFull(%d) returned %v, %v", n, got, ok)
		}
		if edges := edgesOf(t, otherOf(t, got)); len(edges) != 0 {
			t.Errorf("GraphOther of GraphFull(%d) has the edges %v", n, edges)
		}
	}
}
