package tests

import (
	"slices"
	"testing"

	"loop.example/matchpolys/impl"
)

// wantNoForce calls all functions of a perfect matching for which it is none.
func wantNoForce(t *testing.T, what string, g []int, m [][]int) {
	t.Helper()
	force, ok := impl.ForceOf(g, m)
	wantNoNumber(t, "ForceOf of "+what, force, ok)
	set, ok := impl.ForceSet(g, m)
	wantNoLists(t, "ForceSet of "+what, set, ok)
	near, ok := impl.ForceNear(g, m)
	wantNoList(t, "ForceNear of "+what, near, ok)
	for _, s := range [][][]int{nil, {}, m, {{0, 1}}, m[:min(1, len(m))]} {
		if impl.ForceHolds(g, m, s) {
			t.Errorf("ForceHolds of %s holds, with the set %v", what, s)
		}
	}
}

// wantNoSteps checks that all functions fail that need a perfect matching.
func wantNoSteps(t *testing.T, what string, g []int) {
	t.Helper()
	steps, ok := impl.ForceSteps(g)
	wantNoNumber(t, "ForceSteps of "+what, steps, ok)
	blocks, ok := impl.ForceBlocks(g)
	wantNoList(t, "ForceBlocks of "+what, blocks, ok)
	if impl.ForceElementary(g) {
		t.Errorf("ForceElementary of %s holds", what)
	}
}

func TestForceNoGraph(t *testing.T) {
	for what, g := range badGraphs() {
		wantNoSteps(t, what, g)
		spectrum, ok := impl.ForceSpectrum(g)
		wantNoList(t, "ForceSpectrum of "+what, spectrum, ok)
		for _, m := range [][][]int{nil, {}, {{0, 1}}, {{0, 1}, {2, 3}}, {{0, 3}, {1, 2}}, {{0, 1}, {2, 3}, {4, 5}, {6, 7}}} {
			wantNoForce(t, what, g, m)
		}
	}
}

// TestForceNoPerfect tells all matchings of graphs without a perfect one, of odd numbers of nodes among them. Just the spectrum does not fail: it has zeros.
func TestForceNoPerfect(t *testing.T) {
	odd := 0
	for _, s := range forcedSamples() {
		if len(s.perfect) > 0 {
			continue
		}
		odd += len(s.g) % 2
		wantNoSteps(t, "a graph without a perfect matching", s.g)
		spectrum, ok := impl.ForceSpectrum(s.g)
		wantList(t, "ForceSpectrum of a graph without a perfect matching", spectrum, ok, make([]int, forceMax+1)...)
		for _, m := range s.m.matchings() {
			wantNoForce(t, "a graph without a perfect matching", s.g, m)
		}
	}
	if odd < 8 {
		t.Errorf("just %d graphs had an odd number of nodes", odd)
	}
}

func TestForceNoMatching(t *testing.T) {
	for what, m := range badPerfect() {
		wantNoForce(t, "the ring of 6 and "+what, ring6, m)
	}
	for what, m := range badFullMatchings() {
		wantNoForce(t, "the full graph of 8 and "+what, full8, m)
	}
	for _, m := range matrixOfList(full8).matchings() {
		if len(m) < 4 {
			wantNoForce(t, "the full graph of 8 and a matching that misses nodes", full8, m)
		}
	}
	wantNoForce(t, "one node and no edges", []int{0}, nil)
	wantNoForce(t, "an edge that is not told", []int{2, 1}, nil)
	wantNoForce(t, "an edge turned", []int{2, 1}, [][]int{{1, 0}})
	wantNoForce(t, "an edge twice", []int{2, 1}, [][]int{{0, 1}, {0, 1}})
	wantNoForce(t, "an edge of two nodes without edges", []int{0, 0}, [][]int{{0, 1}})
	wantNoForce(t, "a matching of a greater graph", []int{2, 1}, [][]int{{0, 1}, {2, 3}})
	wantNoForce(t, "a matching of a smaller graph", full4, [][]int{{0, 1}})
	wantNoForce(t, "a greatest matching that misses a node", []int{6, 5, 3}, [][]int{{0, 1}})
}

// TestForceNoSet tells lists that are no sets of the edges of a perfect matching.
func TestForceNoSet(t *testing.T) {
	m := [][]int{{0, 1}, {2, 3}, {4, 5}}
	for what, s := range badForcing() {
		if impl.ForceHolds(ring6, m, s) {
			t.Errorf("ForceHolds of the ring of 6 holds with %s, %v", what, s)
		}
	}
	last := [][]int{{0, 7}, {1, 6}, {2, 5}, {3, 4}}
	for what, s := range badFullMatchings() {
		if impl.ForceHolds(full8, last, s) {
			t.Errorf("ForceHolds of the full graph of 8 holds with %s, %v", what, s)
		}
	}
	// Of all matchings of the graph, just those of at least three edges of this one force it.
	for _, s := range matrixOfList(full8).matchings() {
		isOwn := !slices.ContainsFunc(s, func(e []int) bool { return !hasEdge(last, e) })
		if want := isOwn && len(s) >= 3; impl.ForceHolds(full8, last, s) != want {
			t.Errorf("ForceHolds(%v, %v, %v) is %v", full8, last, s, !want)
		}
	}
	// Where there is just one perfect matching, even no edges force it, but lists that are no sets of its edges do not.
	way := []int{2, 5, 10, 4}
	for _, s := range [][][]int{{{1, 2}}, {{0, 2}}, {{2, 3}, {0, 1}}, {{1, 0}}, {{0, 1}, {0, 1}}, {{}}, {nil}, {{0, 1}, {1, 2}}, {{0, 1}, {2, 3}, {4, 5}}} {
		if impl.ForceHolds(way, [][]int{{0, 1}, {2, 3}}, s) {
			t.Errorf("ForceHolds of a way of 4 holds with %v", s)
		}
	}
}

// TestForcedGraphs holds what is told of graphs against numbers made by another program.
func TestForcedGraphs(t *testing.T) {
	for _, f := range forcedGraphs() {
		steps, ok := impl.ForceSteps(f.g)
		wantNumberOr(t, "ForceSteps of "+f.what, steps, ok, f.steps)
		blocks, ok := impl.ForceBlocks(f.g)
		if f.blocks == nil {
			wantNoList(t, "ForceBlocks of "+f.what, blocks, ok)
		} else {
			wantList(t, "ForceBlocks of "+f.what, blocks, ok, f.blocks...)
		}
		if got := impl.ForceElementary(f.g); got != (len(f.blocks) == 1) {
			t.Errorf("ForceElementary of %s is %v", f.what, got)
		}
		spectrum, ok := impl.ForceSpectrum(f.g)
		wantList(t, "ForceSpectrum of "+f.what, spectrum, ok, f.spectrum...)
	}
}

// TestForcedMatchings holds what is told of perfect matchings against sets made by another program.
func TestForcedMatchings(t *testing.T) {
	cases := []struct {
		what   string
		g      []int
		m, set [][]int
		near   []int
	}{
		{"an edge", []int{2, 1}, [][]int{{0, 1}}, nil, nil},
		{"a way of 4", []int{2, 5, 10, 4}, [][]int{{0, 1}, {2, 3}}, nil, nil},
		{"a way that is not straight", crooked, [][]int{{0, 2}, {1, 3}}, nil, nil},
		{"stairs", stairs, [][]int{{0, 4}, {1, 5}, {2, 6}, {3, 7}}, nil, nil},
		{"a ring of 4, the first one", ring4, [][]int{{0, 1}, {2, 3}}, [][]int{{0, 1}}, []int{1}},
		{"a ring of 4, the last one", ring4, [][]int{{0, 3}, {1, 2}}, [][]int{{0, 3}}, []int{0}},
		{"a ring of 6", ring6, [][]int{{0, 5}, {1, 2}, {3, 4}}, [][]int{{0, 5}}, []int{0}},
		{"a ring of 8", ring8, [][]int{{0, 1}, {2, 3}, {4, 5}, {6, 7}}, [][]int{{0, 1}}, []int{1}},
		{"the full graph of 4, the one between", full4, [][]int{{0, 2}, {1, 3}}, [][]int{{0, 2}}, []int{0, 2}},
		{"three and three", []int{56, 56, 56, 7, 7, 7}, [][]int{{0, 4}, {1, 5}, {2, 3}}, [][]int{{0, 4}, {1, 5}}, []int{0, 1, 2, 4, 5}},
		{"an edge and a ring of 4", []int{2, 1, 40, 20, 40, 20}, [][]int{{0, 1}, {2, 5}, {3, 4}}, [][]int{{2, 5}}, []int{0}},
		{"an edge around a ring of 6", []int{128, 68, 10, 20, 40, 80, 34, 1}, [][]int{{0, 7}, {1, 2}, {3, 4}, {5, 6}}, [][]int{{1, 2}}, []int{1}},
		{"two rings of 4", []int{10, 5, 10, 5, 160, 80, 160, 80}, [][]int{{0, 1}, {2, 3}, {4, 7}, {5, 6}}, [][]int{{0, 1}, {4, 7}}, []int{0, 3}},
		{"two rings of 4, node by node", twoRings, [][]int{{0, 6}, {1, 3}, {2, 4}, {5, 7}}, [][]int{{0, 6}, {1, 3}}, []int{0, 3}},
		{"a ladder, the first edges", ladder, [][]int{{0, 1}, {2, 3}, {4, 5}, {6, 7}}, [][]int{{0, 1}, {2, 3}}, []int{1, 2, 3}},
		{"a ladder, an edge inside", ladder, [][]int{{0, 4}, {1, 2}, {3, 7}, {5, 6}}, [][]int{{1, 2}}, []int{0, 1, 3, 4}},
		{"a ladder, all rungs", ladder, [][]int{{0, 4}, {1, 5}, {2, 6}, {3, 7}}, [][]int{{0, 4}, {2, 6}}, []int{1, 2, 3}},
		{"a cube, one way", cube, [][]int{{0, 1}, {2, 3}, {4, 5}, {6, 7}}, [][]int{{0, 1}, {6, 7}}, []int{1, 2, 3, 5, 6, 7}},
		{"a cube, two ways", cube, [][]int{{0, 1}, {2, 6}, {3, 7}, {4, 5}}, [][]int{{0, 1}, {2, 6}}, []int{0, 1, 3, 4, 5, 6, 8}},
		{"a cube, the last one", cube, [][]int{{0, 4}, {1, 5}, {2, 6}, {3, 7}}, [][]int{{0, 4}, {3, 7}}, []int{1, 2, 3, 5, 6, 7}},
		{"a prism, the edges between", prism, [][]int{{0, 3}, {1, 4}, {2, 5}}, [][]int{{0, 3}, {1, 4}}, []int{0, 1, 2}},
		{"a prism, one edge between", prism, [][]int{{0, 3}, {1, 2}, {4, 5}}, [][]int{{1, 2}}, []int{0, 1, 3}},
		{"forced by the first edge", forcedByOne, [][]int{{0, 7}, {1, 6}, {2, 4}, {3, 5}}, [][]int{{0, 7}}, []int{0, 1, 2, 3, 4, 5}},
		{"forced by the third edge", forcedByOne, [][]int{{0, 1}, {2, 4}, {3, 6}, {5, 7}}, [][]int{{3, 6}}, []int{0, 2, 3, 4, 5, 6}},
		{"forced by the last edge", forcedByOne, [][]int{{0, 1}, {2, 4}, {3, 5}, {6, 7}}, [][]int{{6, 7}}, []int{1, 2, 3, 4, 5, 6}},
		{"two blocks, two edges", []int{102, 213, 163, 64, 226, 21, 155, 86}, [][]int{{0, 1}, {2, 7}, {3, 6}, {4, 5}}, [][]int{{0, 1}, {2, 7}}, []int{0, 2, 3, 4}},
	}
	for _, c := range cases {
		force, ok := impl.ForceOf(c.g, c.m)
		wantNumber(t, "ForceOf of "+c.what, force, ok, len(c.set))
		set, ok := impl.ForceSet(c.g, c.m)
		wantLists(t, "ForceSet of "+c.what, set, ok, c.set...)
		near, ok := impl.ForceNear(c.g, c.m)
		wantList(t, "ForceNear of "+c.what, near, ok, c.near...)
		if !impl.ForceHolds(c.g, c.m, c.set) || !impl.ForceHolds(c.g, c.m, c.m) || impl.ForceHolds(c.g, c.m, nil) != (c.set == nil) {
			t.Errorf("ForceHolds of %s, with the set %v, all edges or none", c.what, c.set)
		}
	}
}

// TestForcedFullGraph looks at the full graph of 8 nodes: those that are not near have two rings of 4.
func TestForcedFullGraph(t *testing.T) {
	first, last := [][]int{{0, 1}, {2, 3}, {4, 5}, {6, 7}}, [][]int{{0, 7}, {1, 6}, {2, 5}, {3, 4}}
	set, ok := impl.ForceSet(full8, first)
	wantLists(t, "ForceSet of the first one", set, ok, first[:3]...)
	set, ok = impl.ForceSet(full8, last)
	wantLists(t, "ForceSet of the last one", set, ok, last[:3]...)
	for i, m := range [][][]int{first, last} {
		near, ok := impl.ForceNear(full8, m)
		// Of 105, just the matching itself and 12 are not near: three ways to make two pairs of its edges, and two rings of 4 for each pair.
		if !ok || len(near) != 105-1-12 || slices.Contains(near, 0) || slices.Contains(near, 104) {
			t.Errorf("ForceNear of the full graph of 8 returned %d indexes for the matching %d, %v", len(near), i, near)
		}
	}
}

func TestForceHolds(t *testing.T) {
	rings, first := []int{10, 5, 10, 5, 160, 80, 160, 80}, [][]int{{0, 1}, {2, 3}, {4, 5}, {6, 7}}
	cases := []struct {
		what string
		g    []int
		m, s [][]int
		want bool
	}{
		{"no edges of one", []int{2, 1}, [][]int{{0, 1}}, nil, true},
		{"an empty list for one", []int{2, 1}, [][]int{{0, 1}}, [][]int{}, true},
		{"one edge of one", []int{2, 1}, [][]int{{0, 1}}, [][]int{{0, 1}}, true},
		{"no edges, one perfect matching", stairs, [][]int{{0, 4}, {1, 5}, {2, 6}, {3, 7}}, nil, true},
		{"some edges, one perfect matching", stairs, [][]int{{0, 4}, {1, 5}, {2, 6}, {3, 7}}, [][]int{{1, 5}, {3, 7}}, true},
		{"no edges of a ring", ring6, [][]int{{0, 1}, {2, 3}, {4, 5}}, nil, false},
		{"the last edge of a ring", ring6, [][]int{{0, 1}, {2, 3}, {4, 5}}, [][]int{{4, 5}}, true},
		{"two edges of a ring", ring6, [][]int{{0, 1}, {2, 3}, {4, 5}}, [][]int{{0, 1}, {4, 5}}, true},
		{"all edges of a ring", ring6, [][]int{{0, 5}, {1, 2}, {3, 4}}, [][]int{{0, 5}, {1, 2}, {3, 4}}, true},
		{"both edges of one ring", rings, first, [][]int{{0, 1}, {2, 3}}, false},
		{"both edges of the other ring", rings, first, [][]int{{4, 5}, {6, 7}}, false},
		{"one edge of one ring", rings, first, [][]int{{2, 3}}, false},
		{"an edge of each ring", rings, first, [][]int{{2, 3}, {4, 5}}, true},
		{"three edges of two rings", rings, first, [][]int{{2, 3}, {4, 5}, {6, 7}}, true},
		{"all edges of two rings", rings, first, first, true},
		{"two edges of four", full8, first, [][]int{{0, 1}, {6, 7}}, false},
		{"three edges of four", full8, first, [][]int{{0, 1}, {4, 5}, {6, 7}}, true},
		{"the edge that forces in a ladder", ladder, [][]int{{0, 4}, {1, 2}, {3, 7}, {5, 6}}, [][]int{{5, 6}}, true},
		{"the edges that do not force in a ladder", ladder, [][]int{{0, 4}, {1, 2}, {3, 7}, {5, 6}}, [][]int{{0, 4}, {3, 7}}, false},
	}
	for _, c := range cases {
		if got := impl.ForceHolds(c.g, c.m, c.s); got != c.want {
			t.Errorf("ForceHolds of %s is %v", c.what, got)
		}
	}
}

func TestPromise74(t *testing.T) {
	var forced, free int
	for _, s := range forcedSamples() {
		for _, m := range s.perfect {
			force := forceOf(t, s.g, m)
			if want := len(s.forcing(m)); force != want {
				t.Errorf("ForceOf(%v, %v) is %d, want %d", s.g, m, force, want)
			}
			if force > max(len(s.g)/2-1, 0) || (force == 0) != (len(s.perfect) == 1) {
				t.Errorf("ForceOf(%v, %v) is %d, with %d perfect matchings", s.g, m, force, len(s.perfect))
			}
			if force == 0 {
				forced++
			} else {
				free++
			}
		}
	}
	if forced < 10 || free < 100 {
		t.Errorf("%d matchings were forced by no edges, and %d by some", forced, free)
	}
}

func TestPromise75(t *testing.T) {
	for _, s := range forcedSamples() {
		for _, m := range s.perfect {
			set := forceSet(t, s.g, m)
			if want := s.forcing(m); !sameLists(set, want) {
				t.Errorf("ForceSet(%v, %v) is %v, want %v", s.g, m, set, want)
			}
			if force := forceOf(t, s.g, m); len(set) != force || !impl.ForceHolds(s.g, m, set) {
				t.Errorf("ForceSet(%v, %v) is %v, with the force %d, or does not force it", s.g, m, set, force)
			}
		}
	}
}

func TestPromise76(t *testing.T) {
	for _, s := range forcedSamples() {
		for _, m := range s.perfect {
			force := forceOf(t, s.g, m)
			for _, set := range setsOf(m) {
				holds := impl.ForceHolds(s.g, m, set)
				if holds != s.forces(m, set) {
					t.Errorf("ForceHolds(%v, %v, %v) is %v", s.g, m, set, holds)
				}
				if holds && len(set) < force {
					t.Errorf("ForceHolds(%v, %v, %v) holds, with the force %d", s.g, m, set, force)
				}
			}
			if !impl.ForceHolds(s.g, m, m) {
				t.Errorf("ForceHolds(%v, %v) does not hold for all its edges", s.g, m)
			}
		}
	}
}

func TestPromise77(t *testing.T) {
	var far int
	for _, s := range forcedSamples() {
		var all [][]int
		for i, m := range s.perfect {
			near := forceNear(t, s.g, m)
			if want := s.nearTo(i); !slices.Equal(near, want) {
				t.Errorf("ForceNear(%v, %v) is %v, want %v", s.g, m, near, want)
			}
			if (len(near) == 0) != (len(s.perfect) == 1) {
				t.Errorf("ForceNear(%v, %v) is %v, with %d perfect matchings", s.g, m, near, len(s.perfect))
			}
			all = append(all, near)
			far += len(s.perfect) - 1 - len(near)
		}
		for i, near := range all {
			for _, j := range near {
				if !slices.Contains(all[j], i) {
					t.Errorf("ForceNear of %v is %v for the matching %d, and %v for %d", s.g, near, i, all[j], j)
				}
			}
		}
	}
	if far == 0 {
		t.Error("all perfect matchings were near to each other")
	}
}

func TestPromise78(t *testing.T) {
	seen := map[int]int{}
	for _, s := range forcedSamples() {
		if len(s.perfect) == 0 {
			continue
		}
		steps, ok := impl.ForceSteps(s.g)
		last := len(s.perfect) - 1
		wantNumber(t, "ForceSteps", steps, ok, s.near.distances(0)[last])
		ways, rings, ok := impl.MatchExchange(s.g, s.perfect[0], s.perfect[last])
		if !ok || ways != 0 || steps > rings || (steps == 0) != (last == 0) {
			t.Errorf("ForceSteps(%v) is %d, with %d rings and %d perfect matchings", s.g, steps, rings, last+1)
		}
		seen[steps]++
	}
	if seen[0] < 10 || seen[1] < 10 || seen[2] < 10 {
		t.Errorf("the graphs by their steps: %v", seen)
	}
}

func TestPromise79(t *testing.T) {
	var yes, no int
	for _, s := range forcedSamples() {
		elementary := impl.ForceElementary(s.g)
		if want := len(s.perfect) > 0 && len(s.blocks()) == 1; elementary != want {
			t.Errorf("ForceElementary(%v) is %v", s.g, elementary)
		}
		if len(s.perfect) == 0 {
			continue
		}
		if !elementary {
			no++
			continue
		}
		yes++
		blocks, ok := impl.ForceBlocks(s.g)
		wantList(t, "ForceBlocks of an elementary graph", blocks, ok, 1<<len(s.g)-1)
		if parts := partsOf(t, s.g); len(parts) != 1 {
			t.Errorf("ForceElementary(%v) holds, with the parts %v", s.g, parts)
		}
	}
	if yes < 10 || no < 10 {
		t.Errorf("%d graphs were elementary, and %d not", yes, no)
	}
}

func TestPromise80(t *testing.T) {
	for _, s := range forcedSamples() {
		if len(s.perfect) == 0 {
			continue
		}
		blocks, ok := impl.ForceBlocks(s.g)
		wantList(t, "ForceBlocks", blocks, ok, s.blocks()...)
		all := 0
		for _, block := range blocks {
			if nodesIn(block)%2 != 0 || all&block != 0 {
				t.Errorf("ForceBlocks(%v) is %v", s.g, blocks)
			}
			all |= block
		}
		if all != 1<<len(s.g)-1 {
			t.Errorf("ForceBlocks(%v) is %v, without some nodes", s.g, blocks)
		}
	}
}

func TestPromise81(t *testing.T) {
	for _, s := range forcedSamples() {
		want := make([]int, forceMax+1)
		for _, m := range s.perfect {
			want[len(s.forcing(m))]++
		}
		spectrum, ok := impl.ForceSpectrum(s.g)
		wantList(t, "ForceSpectrum", spectrum, ok, want...)
		sum := 0
		for _, number := range spectrum {
			sum += number
		}
		if sum != perfectCount(t, s.g) || (spectrum[0] == 1) != (sum == 1) || spectrum[0] > 1 {
			t.Errorf("ForceSpectrum(%v) is %v, with %d perfect matchings", s.g, spectrum, perfectCount(t, s.g))
		}
	}
}
