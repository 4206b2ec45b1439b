package tests

import (
	"testing"

	"loop.example/matchpolys/impl"
)

// wantNumberOr checks a number that a function returned, where -1 stands for one that fails.
func wantNumberOr(t *testing.T, what string, got int, ok bool, want int) {
	t.Helper()
	if want == -1 {
		wantNoNumber(t, what, got, ok)
		return
	}
	wantNumber(t, what, got, ok, want)
}

func coverOf(t *testing.T, g []int) int {
	t.Helper()
	return must[int](t, "CoverLeast")(impl.CoverLeast(g))
}

func freeOf(t *testing.T, g []int) int {
	t.Helper()
	return must[int](t, "CoverFree")(impl.CoverFree(g))
}

func lossOf(t *testing.T, g []int, s int) int {
	t.Helper()
	return must[int](t, "CoverLoss")(impl.CoverLoss(g, s))
}

// missedOf returns how many nodes a greatest matching misses.
func missedOf(t *testing.T, g []int) int {
	t.Helper()
	return len(g) - 2*greatestOf(t, g)
}

// TestCoverNumbers holds the functions that return one number, and those that report, against numbers made by hand.
func TestCoverNumbers(t *testing.T) {
	for _, c := range coverCases() {
		number, ok := impl.CoverLeast(c.g)
		wantNumber(t, "CoverLeast of "+c.what, number, ok, c.cover)
		number, ok = impl.CoverFree(c.g)
		wantNumber(t, "CoverFree of "+c.what, number, ok, c.free)
		number, ok = impl.CoverEdges(c.g)
		wantNumberOr(t, "CoverEdges of "+c.what, number, ok, c.edges)
		if got := impl.CoverCritical(c.g); got != c.critical {
			t.Errorf("CoverCritical of %s is %v", c.what, got)
		}
		if got := impl.CoverKonig(c.g); got != c.konig {
			t.Errorf("CoverKonig of %s is %v", c.what, got)
		}
	}
}

// TestCoverSets does the same for the functions that return several numbers.
func TestCoverSets(t *testing.T) {
	for _, c := range coverCases() {
		set, loss, ok := impl.CoverTutte(c.g)
		wantSet(t, "CoverTutte of "+c.what, set, loss, ok, c.tutte, c.loss)
		first, second, third, ok := impl.CoverThree(c.g)
		if got := [3]int{first, second, third}; !ok || got != c.three {
			t.Errorf("CoverThree of %s: got %v, %v, want %v, true", c.what, got, ok, c.three)
		}
		set, difference, ok := impl.CoverHall(c.g)
		if c.hall == -1 {
			wantNoSet(t, "CoverHall of "+c.what, set, difference, ok)
			continue
		}
		wantSet(t, "CoverHall of "+c.what, set, difference, ok, c.hall, c.difference)
	}
}

// TestCoverNoGraph calls all functions of covers with lists that are no graphs.
func TestCoverNoGraph(t *testing.T) {
	numbers := map[string]func([]int) (int, bool){"CoverLeast": impl.CoverLeast, "CoverFree": impl.CoverFree, "CoverEdges": impl.CoverEdges}
	pairs := map[string]func([]int) (int, int, bool){"CoverTutte": impl.CoverTutte, "CoverHall": impl.CoverHall}
	reports := map[string]func([]int) bool{"CoverCritical": impl.CoverCritical, "CoverKonig": impl.CoverKonig}
	for what, g := range badGraphs() {
		for name, call := range numbers {
			number, ok := call(g)
			wantNoNumber(t, name+" of "+what, number, ok)
		}
		for name, call := range pairs {
			set, number, ok := call(g)
			wantNoSet(t, name+" of "+what, set, number, ok)
		}
		for name, call := range reports {
			if call(g) {
				t.Errorf("%s of %s holds", name, what)
			}
		}
		if first, second, third, ok := impl.CoverThree(g); ok || first != 0 || second != 0 || third != 0 {
			t.Errorf("CoverThree of %s: got %d, %d, %d, %v, want it to fail", what, first, second, third, ok)
		}
		for _, s := range []int{0, 1, 3, 255, 256, -1} {
			if impl.CoverIn(g, s) {
				t.Errorf("CoverIn of %s and the set %d holds", what, s)
			}
			loss, ok := impl.CoverLoss(g, s)
			wantNoNumber(t, "CoverLoss of "+what, loss, ok)
		}
	}
}

// TestCoverNoSet calls the functions of a set with numbers that are none, for graphs of 1 to 8 nodes.
func TestCoverNoSet(t *testing.T) {
	for _, c := range coverCases() {
		for what, s := range badSets(len(c.g)) {
			if impl.CoverIn(c.g, s) {
				t.Errorf("CoverIn of %s and %s, %d, holds", c.what, what, s)
			}
			loss, ok := impl.CoverLoss(c.g, s)
			wantNoNumber(t, "CoverLoss of "+c.what+" and "+what, loss, ok)
		}
	}
}

func TestCoverIn(t *testing.T) {
	cases := []struct {
		what string
		g    []int
		s    int
		want bool
	}{
		{"no node of one", []int{0}, 0, true},
		{"one node", []int{0}, 1, true},
		{"no node of 8 without edges", make([]int, 8), 0, true},
		{"all of 8 without edges", make([]int, 8), 255, true},
		{"no node of an edge", []int{2, 1}, 0, false},
		{"the lower node of an edge", []int{2, 1}, 1, true},
		{"the greater node of an edge", []int{2, 1}, 2, true},
		{"both nodes of an edge", []int{2, 1}, 3, true},
		{"the node beside an edge", []int{2, 1, 0}, 4, false},
		{"a node of an edge, without the one beside", []int{2, 1, 0}, 2, true},
		{"one node of a ring of 3", []int{6, 5, 3}, 4, false},
		{"two nodes of a ring of 3", []int{6, 5, 3}, 6, true},
		{"all but two nodes of the full graph of 8", full8, 63, false},
		{"all but one node of the full graph of 8", full8, 254, true},
		{"all nodes of the full graph of 8", full8, 255, true},
		{"one side of four and four", []int{240, 240, 240, 240, 15, 15, 15, 15}, 240, true},
		{"parts of both sides of four and four", []int{240, 240, 240, 240, 15, 15, 15, 15}, 119, false},
		{"all parts but one", mixed, 35, false},
		{"all parts", mixed, 101, true},
	}
	for _, c := range cases {
		if got := impl.CoverIn(c.g, c.s); got != c.want {
			t.Errorf("CoverIn of %s is %v", c.what, got)
		}
	}
}

// TestPromise40 takes all sets of each graph.
func TestPromise40(t *testing.T) {
	for _, m := range sampleGraphs() {
		g := m.list()
		greatest := greatestOf(t, g)
		for _, nodes := range subsets(len(m)) {
			s := setOf(nodes)
			got := impl.CoverIn(g, s)
			if got != m.isCover(nodes) {
				t.Errorf("CoverIn(%v, %d) is %v", g, s, got)
			}
			if !got {
				continue
			}
			if nodesIn(s) < greatest {
				t.Errorf("CoverIn(%v, %d) holds, with %d edges in a greatest matching", g, s, greatest)
			}
			if !impl.CoverIn(g, s|1) {
				t.Errorf("CoverIn(%v, %d) holds, but not with the node 0", g, s)
			}
		}
	}
}

func TestPromise41(t *testing.T) {
	for _, m := range sampleGraphs() {
		g := m.list()
		got, ok := impl.CoverLeast(g)
		wantNumber(t, "CoverLeast", got, ok, setOf(m.leastCover()))
		if !impl.CoverIn(g, got) || nodesIn(got)+nodesIn(freeOf(t, g)) != len(m) || nodesIn(got) > 2*greatestOf(t, g) {
			t.Errorf("CoverLeast(%v) returned %d", g, got)
		}
	}
}

func TestPromise42(t *testing.T) {
	for _, m := range sampleGraphs() {
		g := m.list()
		got, ok := impl.CoverFree(g)
		wantNumber(t, "CoverFree", got, ok, setOf(m.mostFree()))
		if others := 1<<len(m) - 1 - got; !impl.CoverIn(g, others) {
			t.Errorf("CoverFree(%v) returned %d, but the others are no cover", g, got)
		}
		for v, near := range otherOf(t, g) {
			// Of a node of the free set, all of it but the node itself have to be neighbours in the other graph.
			if inSets(got, v) && near&got != got-1<<v {
				t.Errorf("CoverFree(%v) returned %d: %d is not linked to all others in the other graph", g, got, v)
			}
		}
	}
}

func TestPromise43(t *testing.T) {
	for _, m := range sampleGraphs() {
		g := m.list()
		got, ok := impl.CoverEdges(g)
		want, fine := m.edgeCover()
		if !fine {
			wantNoNumber(t, "CoverEdges with a node without neighbours", got, ok)
			continue
		}
		wantNumber(t, "CoverEdges", got, ok, want)
		if got+greatestOf(t, g) != len(m) {
			t.Errorf("CoverEdges(%v) returned %d", g, got)
		}
	}
}

func TestCoverLoss(t *testing.T) {
	cases := []struct {
		what string
		g    []int
		s    int
		want int
	}{
		{"one node, the empty set", []int{0}, 0, 1},
		{"one node, all of it", []int{0}, 1, -1},
		{"8 nodes without edges, the empty set", make([]int, 8), 0, 8},
		{"8 nodes without edges, a node", make([]int, 8), 16, 6},
		{"8 nodes without edges, all nodes", make([]int, 8), 255, -8},
		{"an edge, the empty set", []int{2, 1}, 0, 0},
		{"an edge, a node", []int{2, 1}, 2, 0},
		{"an edge, all nodes", []int{2, 1}, 3, -2},
		{"the full graph of 8, the empty set", full8, 0, 0},
		{"the full graph of 8, a node", full8, 128, 0},
		{"the full graph of 8, two nodes", full8, 3, -2},
		{"the full graph of 8, all nodes", full8, 255, -8},
		{"a star, its middle", []int{14, 1, 1, 1}, 1, 2},
		{"a star, another one", []int{14, 1, 1, 1}, 8, 0},
		{"a star around the last node, its middle", []int{16, 16, 16, 16, 15}, 16, 3},
		{"a way of 5, the middle", []int{2, 5, 10, 20, 8}, 4, -1},
		{"a way of 5, the others but the ends", []int{2, 5, 10, 20, 8}, 10, 1},
		{"several parts, the empty set", mixed, 0, 2},
		{"several parts, a node of the ring", mixed, 1, 0},
		{"several parts, the middle of the way", mixed, 32, 2},
		{"several parts, a node of each one", mixed, 41, 0},
	}
	for _, c := range cases {
		got, ok := impl.CoverLoss(c.g, c.s)
		wantNumber(t, "CoverLoss of "+c.what, got, ok, c.want)
	}
}

// TestPromise44 takes all sets of each graph.
func TestPromise44(t *testing.T) {
	for _, m := range sampleGraphs() {
		g := m.list()
		missed := missedOf(t, g)
		for _, nodes := range subsets(len(m)) {
			s := setOf(nodes)
			got, ok := impl.CoverLoss(g, s)
			wantNumber(t, "CoverLoss", got, ok, m.lossOf(nodes))
			if got > missed || (missed-got)%2 != 0 {
				t.Errorf("CoverLoss(%v, %d) returned %d, and a greatest matching misses %d", g, s, got, missed)
			}
		}
	}
}

func TestPromise45(t *testing.T) {
	for _, m := range sampleGraphs() {
		g := m.list()
		set, loss, ok := impl.CoverTutte(g)
		want, greatest := m.tutte()
		wantSet(t, "CoverTutte", set, loss, ok, setOf(want), greatest)
		if loss != missedOf(t, g) || loss != lossOf(t, g, set) {
			t.Errorf("CoverTutte(%v) returned %d, %d", g, set, loss)
		}
	}
}

func TestPromise46(t *testing.T) {
	for _, m := range sampleGraphs() {
		g := m.list()
		first, second, third, ok := impl.CoverThree(g)
		a, b, c := m.three()
		if !ok || first != setOf(a) || second != setOf(b) || third != setOf(c) {
			t.Errorf("CoverThree(%v) returned %d, %d, %d, %v, want %v, %v, %v", g, first, second, third, ok, a, b, c)
		}
		// The sets have no node in common if their sum is that of all nodes, and so is the one with the nodes of any of them.
		if all := 1<<len(m) - 1; first+second+third != all || first|second|third != all {
			t.Errorf("CoverThree(%v) returned %d, %d, %d: not each node is in one", g, first, second, third)
		}
		_, greatest, _ := impl.CoverTutte(g)
		if loss := lossOf(t, g, second); loss != greatest {
			t.Errorf("CoverThree(%v): the second set %d has the loss %d, the greatest one is %d", g, second, loss, greatest)
		}
		if perfect, ok := impl.MatchPerfect(g); !ok || (first == 0) != (len(perfect) > 0) {
			t.Errorf("CoverThree(%v): the first set is %d, with %d perfect matchings", g, first, len(perfect))
		}
	}
}

func TestPromise47(t *testing.T) {
	for _, m := range sampleGraphs() {
		g := m.list()
		got := impl.CoverCritical(g)
		if got != m.isCritical() {
			t.Errorf("CoverCritical(%v) is %v", g, got)
		}
		if !got {
			continue
		}
		first, _, _, ok := impl.CoverThree(g)
		if !ok || len(m)%2 != 1 || len(partsOf(t, g)) != 1 || first != 1<<len(m)-1 {
			t.Errorf("CoverCritical(%v) holds", g)
		}
	}
}

func TestPromise48(t *testing.T) {
	for _, m := range sampleGraphs() {
		g := m.list()
		set, difference, ok := impl.CoverHall(g)
		want, greatest, fine := m.hall()
		if !fine {
			wantNoSet(t, "CoverHall of a graph without sides", set, difference, ok)
			continue
		}
		wantSet(t, "CoverHall", set, difference, ok, setOf(want), greatest)
		left := must[int](t, "GraphSides")(impl.GraphSides(g))
		if greatestOf(t, g) != nodesIn(left)-difference {
			t.Errorf("CoverHall(%v) returned the difference %d, the left side is %d", g, difference, left)
		}
	}
}

func TestPromise49(t *testing.T) {
	for _, m := range sampleGraphs() {
		g := m.list()
		got := impl.CoverKonig(g)
		if want := len(m.leastCover()) == len(numbersOf(m.matchings()))-1; got != want {
			t.Errorf("CoverKonig(%v) is %v", g, got)
		}
		if _, ok := impl.GraphSides(g); ok && !got {
			t.Errorf("CoverKonig(%v) does not hold, but it has sides", g)
		}
	}
}

func TestPromise50(t *testing.T) {
	for _, m := range sampleGraphs() {
		g := m.list()
		edges, ok := impl.CoverEdges(g)
		if !ok || !impl.CoverKonig(g) {
			continue
		}
		want, _ := m.edgeCover()
		wantNumber(t, "CoverEdges", edges, ok, want)
		if free := freeOf(t, g); nodesIn(free) != edges {
			t.Errorf("CoverKonig(%v) holds: CoverEdges is %d, and CoverFree %d", g, edges, free)
		}
	}
}
