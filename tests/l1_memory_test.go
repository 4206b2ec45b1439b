package tests

import (
	"slices"
	"testing"

	"loop.example/matchpolys/impl"
)

// graphCalls are the functions of graphs that return a list, each with one list of sets as what it is called with.
func graphCalls() map[string]func(g []int) ([]int, bool) {
	return map[string]func(g []int) ([]int, bool){
		"GraphDegrees":          impl.GraphDegrees,
		"GraphOther":            impl.GraphOther,
		"GraphParts":            impl.GraphParts,
		"GraphWithout":          func(g []int) ([]int, bool) { return impl.GraphWithout(g, len(g)-1) },
		"GraphWithout first":    func(g []int) ([]int, bool) { return impl.GraphWithout(g, 0) },
		"GraphCut":              func(g []int) ([]int, bool) { return impl.GraphCut(g, 0, 1) },
		"GraphBeside, first":    func(g []int) ([]int, bool) { return impl.GraphBeside(g, []int{0}) },
		"GraphBeside, second":   func(g []int) ([]int, bool) { return impl.GraphBeside([]int{0}, g) },
		"GraphBeside of itself": func(g []int) ([]int, bool) { return impl.GraphBeside(g, g) },
	}
}

// memoryGraphs are graphs with the edge of 0 and 1, with and without others, and lists that are none.
func memoryGraphs() [][]int {
	return [][]int{{2, 1}, {6, 5, 3}, {10, 5, 10, 5}, {2, 1, 8, 4}, {2, 1, 0, 0, 0, 0, 0}, {254, 253, 251, 247, 239, 223, 191, 127}, {2, 0}, {3, 1}, {-2, 1}}
}

// TestListsAreNew spoils each result and looks at the argument, the room behind it, and the next result.
func TestListsAreNew(t *testing.T) {
	for what, call := range graphCalls() {
		for _, list := range memoryGraphs() {
			g, unchanged := spread(t, what, list)
			first, ok := call(g)
			unchanged()
			want := slices.Clone(first)
			spoil(first)
			unchanged()
			second, fine := call(g)
			if ok != fine || !slices.Equal(second, want) {
				t.Errorf("%s(%v) returned %v, %v, and then %v, %v", what, list, want, ok, second, fine)
			}
		}
	}
}

func TestGraphsOfNumbersAreNew(t *testing.T) {
	calls := map[string]func(int) ([]int, bool){"GraphWay": impl.GraphWay, "GraphRing": impl.GraphRing, "GraphFull": impl.GraphFull, "GraphOf": func(n int) ([]int, bool) { return impl.GraphOf(n, nil) }}
	for what, call := range calls {
		for n := 3; n <= impl.NodesMax; n++ {
			first, _ := call(n)
			want := slices.Clone(first)
			spoil(first)
			if second, ok := call(n); !ok || !slices.Equal(second, want) {
				t.Errorf("%s(%d) returned %v, and then %v", what, n, want, second)
			}
		}
	}
}

// TestEdgesAreNew spoils the lists of edges one by one: none of the others may change.
func TestEdgesAreNew(t *testing.T) {
	for _, list := range memoryGraphs() {
		g, unchanged := spread(t, "GraphEdges", list)
		edges, _ := impl.GraphEdges(g)
		unchanged()
		for i := range edges {
			behind := []int{}
			for _, e := range edges[i+1:] {
				behind = append(behind, e...)
			}
			spoil(edges[i])
			unchanged()
			if left := slices.Concat(edges[i+1:]...); !slices.Equal(left, behind) {
				t.Errorf("GraphEdges(%v): to change the list %d made %v of %v", list, i, left, behind)
			}
		}
		// From the last one to the first one, too.
		edges, _ = impl.GraphEdges(g)
		for i := len(edges) - 1; i >= 0; i-- {
			ahead := slices.Concat(edges[:i]...)
			spoil(edges[i])
			if left := slices.Concat(edges[:i]...); !slices.Equal(left, ahead) {
				t.Errorf("GraphEdges(%v): to change the list %d made %v of %v", list, i, left, ahead)
			}
		}
	}
}

// TestGraphOfKeepsItsArgument calls GraphOf with unsorted edges in one piece of memory, which it may neither sort nor keep.
func TestGraphOfKeepsItsArgument(t *testing.T) {
	for _, numbers := range [][]int{{3, 1, 2, 0, 2, 0, 1, 0}, {3, 1, 2, 0, 2, 0, 4, 4}} {
		room, unchanged := spread(t, "GraphOf", numbers)
		edges := [][]int{room[0:2], room[2:4], room[4:6], room[6:8]}
		got, ok := impl.GraphOf(5, edges)
		unchanged()
		for i, e := range edges {
			if len(e) != 2 || &e[0] != &room[2*i] {
				t.Errorf("GraphOf: the list %d of the argument became %v", i, e)
			}
		}
		want := slices.Clone(got)
		spoil(got)
		unchanged()
		if again, fine := impl.GraphOf(5, edges); fine != ok || !slices.Equal(again, want) {
			t.Errorf("GraphOf returned %v, and then %v", want, again)
		}
	}
}

// TestReportsChangeNothing looks at the arguments of the functions that return no list.
func TestReportsChangeNothing(t *testing.T) {
	for _, list := range memoryGraphs() {
		g, unchanged := spread(t, "GraphIn", list)
		impl.GraphIn(g)
		unchanged()
		g, unchanged = spread(t, "GraphSides", list)
		impl.GraphSides(g)
		unchanged()
	}
}
