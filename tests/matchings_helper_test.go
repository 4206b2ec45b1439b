package tests

import (
	"slices"
	"testing"
)

// matchings returns all matchings, in the order of their lists: each edge is taken or left, and the lists are sorted then.
func (m matrix) matchings() [][][]int {
	edges := m.pairs(true)
	used := make([]bool, len(m))
	all := [][][]int{}
	var choose func(from int, taken [][]int)
	choose = func(from int, taken [][]int) {
		if from == len(edges) {
			all = append(all, slices.Clone(taken))
			return
		}
		choose(from+1, taken)
		a, b := edges[from][0], edges[from][1]
		if used[a] || used[b] {
			return
		}
		used[a], used[b] = true, true
		choose(from+1, append(slices.Clone(taken), edges[from]))
		used[a], used[b] = false, false
	}
	choose(0, nil)
	slices.SortFunc(all, func(a, b [][]int) int { return slices.CompareFunc(a, b, slices.Compare[[]int]) })
	return all
}

// ofSize returns the matchings with a number of edges.
func ofSize(all [][][]int, edges int) [][][]int {
	found := [][][]int{}
	for _, m := range all {
		if len(m) == edges {
			found = append(found, m)
		}
	}
	return found
}

// perfectOf returns the matchings that miss none of n nodes.
func perfectOf(all [][][]int, n int) [][][]int {
	if n%2 == 1 {
		return [][][]int{}
	}
	return ofSize(all, n/2)
}

// numbersOf counts the matchings by their edges, up to the greatest.
func numbersOf(all [][][]int) []int {
	numbers := []int{}
	for edges := 0; len(ofSize(all, edges)) > 0; edges++ {
		numbers = append(numbers, len(ofSize(all, edges)))
	}
	return numbers
}

func hasEdge(list [][]int, e []int) bool {
	return slices.ContainsFunc(list, func(f []int) bool { return slices.Equal(e, f) })
}

// missedBy returns the nodes, of n, that are in no edge.
func missedBy(list [][]int, n int) []int {
	missed := []int{}
	for v := range n {
		if !slices.ContainsFunc(list, func(e []int) bool { return slices.Contains(e, v) }) {
			missed = append(missed, v)
		}
	}
	return missed
}

// isFull reports whether no edge stands between two nodes that are missed.
func (m matrix) isFull(list [][]int) bool {
	missed := missedBy(list, len(m))
	for _, a := range missed {
		for _, b := range missed {
			if m[a][b] {
				return false
			}
		}
	}
	return true
}

// exchange counts ways and rings of the edges that are in just one list: a ring has as many edges as nodes, a way one less.
func exchange(n int, a, b [][]int) (ways, rings int) {
	just := bareMatrix(n)
	for _, e := range slices.Concat(a, b) {
		if !hasEdge(a, e) || !hasEdge(b, e) {
			just.link(e[0], e[1])
		}
	}
	for _, part := range just.parts() {
		edges := 0
		for _, e := range just.pairs(true) {
			if slices.Contains(part, e[0]) {
				edges++
			}
		}
		switch {
		case edges == len(part):
			rings++
		case edges > 0:
			ways++
		}
	}
	return ways, rings
}

func sameMatchings(a, b [][][]int) bool {
	return slices.EqualFunc(a, b, sameLists)
}

// badMatchings returns lists that are no matchings of the ring of 6 nodes, by what is wrong with them.
func badMatchings() map[string][][]int {
	const far, least = 1 << 62, -1 << 63
	return map[string][][]int{
		"a list of nothing":                          {nil},
		"an empty list":                              {{}},
		"one node":                                   {{0}},
		"three nodes":                                {{0, 1, 2}},
		"a node twice":                               {{0, 1, 1}},
		"a node twice, around the other one":         {{0, 1, 0}},
		"four nodes":                                 {{0, 1, 2, 3}},
		"one node behind an edge":                    {{0, 1}, {2}},
		"three nodes behind an edge":                 {{0, 1}, {2, 3, 4}},
		"nothing ahead of an edge":                   {{}, {2, 3}},
		"the greater node first":                     {{1, 0}},
		"the greater node first, in the second list": {{0, 1}, {3, 2}},
		"the greater node first, in the first list":  {{1, 0}, {2, 3}},
		"the greater node first, over the ring":      {{5, 0}},
		"a node and itself":                          {{2, 2}},
		"edges that are not in order":                {{2, 3}, {0, 1}},
		"edges that are not in order, the last two":  {{0, 1}, {4, 5}, {2, 3}},
		"edges that are not in order, one around":    {{1, 2}, {0, 5}},
		"an edge twice":                              {{0, 1}, {0, 1}},
		"an edge twice, others between":              {{0, 1}, {2, 3}, {0, 1}},
		"an edge more than there is room for":        {{0, 1}, {2, 3}, {4, 5}, {4, 5}},
		"no edge of the graph":                       {{0, 2}},
		"no edge of the graph, across":               {{0, 3}},
		"no edge of the graph, behind another one":   {{0, 1}, {2, 4}},
		"no edge of the graph, ahead of another one": {{0, 3}, {1, 2}},
		"the lower node in common":                   {{0, 1}, {0, 5}},
		"the greater node in common":                 {{0, 5}, {4, 5}},
		"the greater node in common with a lower":    {{0, 1}, {1, 2}},
		"a node in common, others between":           {{0, 5}, {1, 2}, {4, 5}},
		"a node in common, far behind":               {{0, 1}, {2, 3}, {3, 4}},
		"a node that is not there":                   {{0, 6}},
		"two nodes that are not there":               {{6, 7}},
		"two nodes behind all others":                {{0, 1}, {2, 3}, {4, 5}, {6, 7}},
		"a node of no graph":                         {{0, 8}},
		"a negative node":                            {{-1, 0}},
		"a negative node, behind":                    {{0, -1}},
		"two negative nodes":                         {{-2, -1}},
		"a node 64":                                  {{0, 64}},
		"a node 65, with the bit of 1":               {{0, 65}},
		"a great node":                               {{0, far}},
		"two great nodes":                            {{far, far + 1}},
		"the least number":                           {{least, 0}},
		"the least number, behind an edge":           {{0, 1}, {least, 3}},
	}
}

// badFullMatchings returns lists that are no matchings of the full graph of 8 nodes.
func badFullMatchings() map[string][][]int {
	return map[string][][]int{
		"the lower node in common":            {{0, 3}, {0, 4}},
		"the greater node in common":          {{0, 3}, {1, 3}},
		"a greater and a lower node":          {{0, 3}, {1, 2}, {3, 4}},
		"a lower node that is a greater one":  {{0, 4}, {1, 2}, {3, 4}},
		"not in order":                        {{1, 2}, {0, 3}},
		"not in order by the greater nodes":   {{0, 3}, {2, 4}, {1, 5}},
		"a fifth edge":                        {{0, 1}, {2, 3}, {4, 5}, {6, 7}, {6, 7}},
		"a fifth edge of nodes not there":     {{0, 1}, {2, 3}, {4, 5}, {6, 7}, {8, 9}},
		"the node 8":                          {{7, 8}},
		"the node 8, behind three edges":      {{0, 1}, {2, 3}, {4, 5}, {6, 8}},
		"all edges of a node":                 {{0, 1}, {0, 2}, {0, 3}, {0, 4}, {0, 5}, {0, 6}, {0, 7}},
		"the greater node first, at the last": {{0, 1}, {2, 3}, {4, 5}, {7, 6}},
		"two nodes, and a list of three":      {{0, 1}, {2, 3}, {4, 5, 6}},
	}
}

// spreadLists returns a copy of some lists with room behind each one and behind all, and a check that nothing of it has changed.
func spreadLists(t *testing.T, what string, lists [][]int) ([][]int, func()) {
	t.Helper()
	const mark = 77
	// All lists are in one piece of memory, so that each one has room that belongs to the next one.
	var numbers []int
	for _, list := range lists {
		numbers = append(append(numbers, list...), mark)
	}
	numbers = append(numbers, mark, mark)
	want := slices.Clone(numbers)
	var room [][]int
	from := 0
	for _, list := range lists {
		room = append(room, numbers[from:from+len(list)])
		from += len(list) + 1
	}
	marker := []int{mark}
	room = append(room, marker, marker, marker)
	heads := slices.Clone(room)
	return room[:len(lists)], func() {
		t.Helper()
		if !slices.Equal(numbers, want) || marker[0] != mark {
			t.Errorf("%s: the numbers %v of the argument became %v", what, want, numbers)
		}
		for i, list := range room {
			if len(list) != len(heads[i]) || cap(list) != cap(heads[i]) || len(list) > 0 && &list[0] != &heads[i][0] {
				t.Errorf("%s: the list %d of the argument became another one", what, i)
			}
		}
	}
}

// spoilLists overwrites lists of lists with all the room that they have.
func spoilLists(lists [][]int) {
	for _, list := range lists {
		spoil(list)
	}
	lists = lists[:cap(lists)]
	for i := range lists {
		lists[i] = []int{-99}
	}
}

func cloneLists(lists [][]int) [][]int {
	copied := [][]int{}
	for _, list := range lists {
		copied = append(copied, slices.Clone(list))
	}
	return copied
}

func cloneMatchings(all [][][]int) [][][]int {
	copied := [][][]int{}
	for _, m := range all {
		copied = append(copied, cloneLists(m))
	}
	return copied
}
