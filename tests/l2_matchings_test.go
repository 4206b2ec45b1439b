package tests

import (
	"slices"
	"testing"

	"loop.example/matchpolys/impl"
)

// Graphs that several tests use.
var (
	ring6 = []int{34, 5, 10, 20, 40, 17}
	full4 = []int{14, 13, 11, 7}
	full8 = []int{254, 253, 251, 247, 239, 223, 191, 127}
	// The edges 01, 02 and 13: with the first edge, no other one is left.
	crooked = []int{6, 9, 1, 2}
	// The ring 0, 1, 2, the edge 36, the way 4, 5, 7.
	mixed = []int{6, 5, 3, 64, 32, 144, 8, 32}
)

// wantNumber checks a number that a function returned with true.
func wantNumber(t *testing.T, what string, got int, ok bool, want int) {
	t.Helper()
	if !ok || got != want {
		t.Errorf("%s: got %d, %v, want %d, true", what, got, ok, want)
	}
}

// wantNoNumber checks that a function failed, with 0 beside the false.
func wantNoNumber(t *testing.T, what string, got int, ok bool) {
	t.Helper()
	if ok || got != 0 {
		t.Errorf("%s: got %d, %v, want it to fail", what, got, ok)
	}
}

func wantNoLists(t *testing.T, what string, got [][]int, ok bool) {
	t.Helper()
	if ok || len(got) != 0 {
		t.Errorf("%s: got %v, %v, want it to fail", what, got, ok)
	}
}

func wantMatchings(t *testing.T, what string, got [][][]int, ok bool, want ...[][]int) {
	t.Helper()
	if !ok || !sameMatchings(got, want) {
		t.Errorf("%s: got %v, %v, want %v, true", what, got, ok, want)
	}
}

func greatestOf(t *testing.T, g []int) int {
	t.Helper()
	return must[int](t, "MatchGreatest")(impl.MatchGreatest(g))
}

func countOf(t *testing.T, g []int) int {
	t.Helper()
	return must[int](t, "MatchAll")(impl.MatchAll(g))
}

func withoutNode(t *testing.T, g []int, v int) []int {
	t.Helper()
	return must[[]int](t, "GraphWithout")(impl.GraphWithout(g, v))
}

// smallGraphs returns all graphs of up to a number of nodes.
func smallGraphs(most int) []matrix {
	var graphs []matrix
	for n := 1; n <= most; n++ {
		for bits := range uint64(1) << (n * (n - 1) / 2) {
			graphs = append(graphs, graphOfBits(n, bits))
		}
	}
	return graphs
}

func TestMatchIn(t *testing.T) {
	good := []struct {
		g []int
		m [][]int
	}{
		{[]int{0}, nil},
		{[]int{0}, [][]int{}},
		{make([]int, 8), nil},
		{[]int{2, 1}, nil},
		{[]int{2, 1}, [][]int{{0, 1}}},
		{ring6, [][]int{{0, 5}, {1, 2}, {3, 4}}},
		{ring6, [][]int{{0, 1}, {4, 5}}},
		{crooked, [][]int{{0, 2}, {1, 3}}},
		{full8, [][]int{{0, 7}, {1, 6}, {2, 5}, {3, 4}}},
		{full8, [][]int{{6, 7}}},
		{mixed, [][]int{{1, 2}, {3, 6}, {5, 7}}},
	}
	for _, c := range good {
		if !impl.MatchIn(c.g, c.m) {
			t.Errorf("MatchIn(%v, %v) does not hold", c.g, c.m)
		}
	}
	for what, m := range badMatchings() {
		if impl.MatchIn(ring6, m) {
			t.Errorf("MatchIn of %s, %v, holds", what, m)
		}
	}
	for what, m := range badFullMatchings() {
		if impl.MatchIn(full8, m) {
			t.Errorf("MatchIn of the full graph, %s, %v, holds", what, m)
		}
	}
	for what, g := range badGraphs() {
		if impl.MatchIn(g, nil) || impl.MatchIn(g, [][]int{{0, 1}}) {
			t.Errorf("MatchIn of %s holds", what)
		}
	}
	if impl.MatchIn([]int{0, 0}, [][]int{{0, 1}}) || impl.MatchIn([]int{0}, [][]int{{0, 0}}) {
		t.Errorf("MatchIn of a graph without edges holds with an edge")
	}
}

// TestMatchInAll holds MatchIn against all matchings, for all lists of up to two pairs of small numbers.
func TestMatchInAll(t *testing.T) {
	for _, m := range smallGraphs(4) {
		all := m.matchings()
		pairs := [][]int{}
		for a := -1; a <= len(m); a++ {
			for b := -1; b <= len(m); b++ {
				pairs = append(pairs, []int{a, b})
			}
		}
		lists := [][][]int{{}}
		for _, e := range pairs {
			lists = append(lists, [][]int{e})
			for _, f := range pairs {
				lists = append(lists, [][]int{e, f})
			}
		}
		held := 0
		for _, list := range lists {
			want := slices.ContainsFunc(all, func(k [][]int) bool { return sameLists(k, list) })
			if got := impl.MatchIn(m.list(), list); got != want {
				t.Errorf("MatchIn(%v, %v) is %v", m.list(), list, got)
			}
			if want {
				held++
			}
		}
		if held != len(all) {
			t.Errorf("%d lists are matchings of %v, want %d", held, m.list(), len(all))
		}
	}
}

func TestPromise14(t *testing.T) {
	for _, m := range sampleGraphs() {
		g := m.list()
		for _, list := range m.matchings() {
			if !impl.MatchIn(g, list) {
				t.Errorf("MatchIn(%v, %v) does not hold", g, list)
			}
			missed, ok := impl.MatchMissed(g, list)
			nodes := 0
			for v := range m {
				nodes += missed >> v & 1
			}
			if !ok || nodes != len(m)-2*len(list) {
				t.Errorf("MatchMissed(%v, %v) returned %d, %v", g, list, missed, ok)
			}
			if len(list) > 0 && !impl.MatchIn(g, list[:len(list)-1]) {
				t.Errorf("MatchIn(%v, %v) does not hold without the last edge", g, list)
			}
		}
	}
}

func TestMatchNumbers(t *testing.T) {
	cases := []struct {
		what string
		g    []int
		want []int
		all  int
	}{
		{"one node", []int{0}, []int{1}, 1},
		{"two nodes without edges", []int{0, 0}, []int{1}, 1},
		{"8 nodes without edges", make([]int, 8), []int{1}, 1},
		{"an edge", []int{2, 1}, []int{1, 1}, 2},
		{"a ring of 3", []int{6, 5, 3}, []int{1, 3}, 4},
		{"the full graph of 4", full4, []int{1, 6, 3}, 10},
		{"a way that is not straight", crooked, []int{1, 3, 1}, 5},
		{"a star of 5", []int{30, 1, 1, 1, 1}, []int{1, 4}, 5},
		{"a ring of 6", ring6, []int{1, 6, 9, 2}, 18},
		{"a ring of 8", []int{130, 5, 10, 20, 40, 80, 160, 65}, []int{1, 8, 20, 16, 2}, 47},
		{"a way of 8", []int{2, 5, 10, 20, 40, 80, 160, 64}, []int{1, 7, 15, 10, 1}, 34},
		{"the full graph of 7", []int{126, 125, 123, 119, 111, 95, 63}, []int{1, 21, 105, 105}, 232},
		{"the full graph of 8", full8, []int{1, 28, 210, 420, 105}, 764},
		{"four and four", []int{240, 240, 240, 240, 15, 15, 15, 15}, []int{1, 16, 72, 96, 24}, 209},
		{"several parts", mixed, []int{1, 6, 11, 6}, 24},
		{"two edges and a node alone between", []int{2, 1, 0, 16, 8}, []int{1, 2, 1}, 4},
	}
	for _, c := range cases {
		got, ok := impl.MatchNumbers(c.g)
		wantList(t, "MatchNumbers of "+c.what, got, ok, c.want...)
		number, ok := impl.MatchGreatest(c.g)
		wantNumber(t, "MatchGreatest of "+c.what, number, ok, len(c.want)-1)
		number, ok = impl.MatchAll(c.g)
		wantNumber(t, "MatchAll of "+c.what, number, ok, c.all)
	}
}

// TestMatchNoGraph calls all functions of matchings with lists that are no graphs.
func TestMatchNoGraph(t *testing.T) {
	for what, g := range badGraphs() {
		list, ok := impl.MatchNumbers(g)
		wantNoList(t, "MatchNumbers of "+what, list, ok)
		number, ok := impl.MatchGreatest(g)
		wantNoNumber(t, "MatchGreatest of "+what, number, ok)
		number, ok = impl.MatchAll(g)
		wantNoNumber(t, "MatchAll of "+what, number, ok)
		first, ok := impl.MatchFirst(g)
		wantNoLists(t, "MatchFirst of "+what, first, ok)
		allowed, ok := impl.MatchAllowed(g)
		wantNoLists(t, "MatchAllowed of "+what, allowed, ok)
		if perfect, ok := impl.MatchPerfect(g); ok || len(perfect) != 0 {
			t.Errorf("MatchPerfect of %s: got %v, %v, want it to fail", what, perfect, ok)
		}
		wantNoMatching(t, "of "+what, g, nil)
		wantNoMatching(t, "of "+what+" with an edge", g, [][]int{{0, 1}})
	}
}

// wantNoMatching checks that whatever is made of a matching fails.
func wantNoMatching(t *testing.T, what string, g []int, m [][]int) {
	t.Helper()
	number, ok := impl.MatchMissed(g, m)
	wantNoNumber(t, "MatchMissed "+what, number, ok)
	longer, ok := impl.MatchLonger(g, m)
	wantNoLists(t, "MatchLonger "+what, longer, ok)
	if impl.MatchFull(g, m) {
		t.Errorf("MatchFull %s holds", what)
	}
	for _, pair := range [][2][][]int{{m, m}, {m, nil}, {nil, m}, {m, {{0, 1}}}, {{{0, 1}}, m}} {
		if ways, rings, ok := impl.MatchExchange(g, pair[0], pair[1]); ok || ways != 0 || rings != 0 {
			t.Errorf("MatchExchange %s: got %d, %d, %v, want it to fail", what, ways, rings, ok)
		}
	}
}

// TestMatchNoMatching calls all functions of matchings with lists that are none.
func TestMatchNoMatching(t *testing.T) {
	for what, m := range badMatchings() {
		wantNoMatching(t, "of the ring with "+what, ring6, m)
	}
	for what, m := range badFullMatchings() {
		wantNoMatching(t, "of the full graph with "+what, full8, m)
	}
	wantNoMatching(t, "of a node alone with an edge", []int{0}, [][]int{{0, 1}})
	wantNoMatching(t, "of 8 nodes without edges with an edge", make([]int, 8), [][]int{{0, 1}})
}

func TestPromise15(t *testing.T) {
	for _, m := range sampleGraphs() {
		g := m.list()
		got, ok := impl.MatchNumbers(g)
		wantList(t, "MatchNumbers", got, ok, numbersOf(m.matchings())...)
		edges := m.pairs(true)
		if len(edges) == 0 || len(m) <= 2 {
			continue
		}
		a, b := edges[0][0], edges[0][1]
		cut := must[[]int](t, "GraphCut")(impl.GraphCut(g, a, b))
		fewer := must[[]int](t, "MatchNumbers")(impl.MatchNumbers(cut))
		rest := must[[]int](t, "MatchNumbers")(impl.MatchNumbers(withoutNode(t, withoutNode(t, g, b), a)))
		want := make([]int, max(len(fewer), len(rest)+1))
		copy(want, fewer)
		for i, number := range rest {
			want[i+1] += number
		}
		wantList(t, "MatchNumbers by the first edge", got, ok, want...)
	}
}

func TestPromise16(t *testing.T) {
	small := smallGraphs(4)
	for _, m := range small {
		for _, k := range small {
			g, h := m.list(), k.list()
			both := must[[]int](t, "GraphBeside")(impl.GraphBeside(g, h))
			number, ok := impl.MatchAll(both)
			wantNumber(t, "MatchAll of two graphs beside each other", number, ok, countOf(t, g)*countOf(t, h))
			number, ok = impl.MatchGreatest(both)
			wantNumber(t, "MatchGreatest of two graphs beside each other", number, ok, greatestOf(t, g)+greatestOf(t, h))
		}
	}
}

func TestPromise17(t *testing.T) {
	for _, m := range sampleGraphs() {
		got, ok := impl.MatchNumbers(m.list())
		wantList(t, "MatchNumbers", got, ok, numbersOf(m.matchings())...)
		for i := 1; i+1 < len(got); i++ {
			if got[i]*got[i] < got[i-1]*got[i+1] {
				t.Errorf("MatchNumbers(%v) returned %v: the square of the number %d is less", m.list(), got, i)
			}
		}
	}
}

func TestPromise18(t *testing.T) {
	for _, m := range sampleGraphs() {
		g := m.list()
		got, ok := impl.MatchGreatest(g)
		wantNumber(t, "MatchGreatest", got, ok, len(numbersOf(m.matchings()))-1)
		if 2*got > len(m) {
			t.Errorf("MatchGreatest(%v) returned %d", g, got)
		}
		if len(m) == 1 {
			continue
		}
		if less := greatestOf(t, withoutNode(t, g, 0)); less != got && less != got-1 {
			t.Errorf("MatchGreatest(%v) returned %d, and without the node 0 %d", g, got, less)
		}
	}
}

func TestMatchFirst(t *testing.T) {
	cases := []struct {
		what string
		g    []int
		want [][]int
	}{
		{"one node", []int{0}, nil},
		{"8 nodes without edges", make([]int, 8), nil},
		{"an edge", []int{2, 1}, [][]int{{0, 1}}},
		{"a ring of 3", []int{6, 5, 3}, [][]int{{0, 1}}},
		// The first edge is in none.
		{"a way that is not straight", crooked, [][]int{{0, 2}, {1, 3}}},
		{"a ring of 6", ring6, [][]int{{0, 1}, {2, 3}, {4, 5}}},
		{"the full graph of 8", full8, [][]int{{0, 1}, {2, 3}, {4, 5}, {6, 7}}},
		{"four and four", []int{240, 240, 240, 240, 15, 15, 15, 15}, [][]int{{0, 4}, {1, 5}, {2, 6}, {3, 7}}},
		{"several parts", mixed, [][]int{{0, 1}, {3, 6}, {4, 5}}},
		{"a star around the last node", []int{16, 16, 16, 16, 15}, [][]int{{0, 4}}},
		// The node 0 is alone, and the edge 12 is in no greatest one: 13 and 24 are.
		{"a node alone ahead", []int{0, 12, 18, 2, 4}, [][]int{{1, 3}, {2, 4}}},
	}
	for _, c := range cases {
		got, ok := impl.MatchFirst(c.g)
		wantLists(t, "MatchFirst of "+c.what, got, ok, c.want...)
	}
}

func TestPromise19(t *testing.T) {
	for _, m := range sampleGraphs() {
		g, all := m.list(), m.matchings()
		got, ok := impl.MatchFirst(g)
		wantLists(t, "MatchFirst", got, ok, ofSize(all, len(numbersOf(all))-1)[0]...)
		if !impl.MatchIn(g, got) || !impl.MatchFull(g, got) || len(got) != greatestOf(t, g) {
			t.Errorf("MatchFirst(%v) returned %v", g, got)
		}
	}
}

func TestMatchPerfect(t *testing.T) {
	got, ok := impl.MatchPerfect([]int{2, 1})
	wantMatchings(t, "MatchPerfect of an edge", got, ok, [][]int{{0, 1}})
	got, ok = impl.MatchPerfect(full4)
	wantMatchings(t, "MatchPerfect of the full graph of 4", got, ok, [][]int{{0, 1}, {2, 3}}, [][]int{{0, 2}, {1, 3}}, [][]int{{0, 3}, {1, 2}})
	got, ok = impl.MatchPerfect(ring6)
	wantMatchings(t, "MatchPerfect of a ring of 6", got, ok, [][]int{{0, 1}, {2, 3}, {4, 5}}, [][]int{{0, 5}, {1, 2}, {3, 4}})
	got, ok = impl.MatchPerfect(crooked)
	wantMatchings(t, "MatchPerfect of a way that is not straight", got, ok, [][]int{{0, 2}, {1, 3}})
	none := [][]int{{0}, {0, 0}, {6, 5, 3}, make([]int, 7), make([]int, 8), {30, 1, 1, 1, 1}, {14, 1, 1, 1}, mixed, {126, 125, 123, 119, 111, 95, 63}}
	for _, g := range none {
		got, ok := impl.MatchPerfect(g)
		wantMatchings(t, "MatchPerfect of a graph without one", got, ok)
	}
	if got, ok := impl.MatchPerfect(full8); !ok || len(got) != 105 || !sameLists(got[0], [][]int{{0, 1}, {2, 3}, {4, 5}, {6, 7}}) || !sameLists(got[104], [][]int{{0, 7}, {1, 6}, {2, 5}, {3, 4}}) {
		t.Errorf("MatchPerfect of the full graph of 8 returned %v, %v", got, ok)
	}
}

func TestPromise20(t *testing.T) {
	for _, m := range sampleGraphs() {
		g := m.list()
		got, ok := impl.MatchPerfect(g)
		wantMatchings(t, "MatchPerfect", got, ok, perfectOf(m.matchings(), len(m))...)
		for _, list := range got {
			if missed, ok := impl.MatchMissed(g, list); !ok || missed != 0 {
				t.Errorf("MatchMissed(%v, %v) returned %d, %v", g, list, missed, ok)
			}
		}
		want := 0
		if numbers, _ := impl.MatchNumbers(g); len(m)%2 == 0 && len(numbers) == len(m)/2+1 {
			want = numbers[len(m)/2]
		}
		if len(got) != want {
			t.Errorf("MatchPerfect(%v) returned %d, want %d", g, len(got), want)
		}
	}
}

func TestMatchMissed(t *testing.T) {
	cases := []struct {
		g    []int
		m    [][]int
		want int
	}{
		{[]int{0}, nil, 1},
		{make([]int, 8), [][]int{}, 255},
		{[]int{2, 1}, nil, 3},
		{[]int{2, 1}, [][]int{{0, 1}}, 0},
		{ring6, [][]int{{0, 5}}, 30},
		{ring6, [][]int{{1, 2}, {4, 5}}, 9},
		{full8, [][]int{{0, 7}, {1, 6}, {2, 5}, {3, 4}}, 0},
		{full8, [][]int{{0, 1}, {2, 3}, {4, 5}}, 192},
		{mixed, [][]int{{1, 2}, {3, 6}, {5, 7}}, 17},
	}
	for _, c := range cases {
		got, ok := impl.MatchMissed(c.g, c.m)
		wantNumber(t, "MatchMissed", got, ok, c.want)
	}
}

func TestPromise21(t *testing.T) {
	for _, m := range sampleGraphs() {
		g := m.list()
		greatest := greatestOf(t, g)
		for _, list := range m.matchings() {
			missed, ok := impl.MatchMissed(g, list)
			wantNumber(t, "MatchMissed", missed, ok, setOf(missedBy(list, len(m))))
			if !impl.MatchFull(g, list) {
				continue
			}
			if 2*len(list) < greatest {
				t.Errorf("MatchFull(%v, %v) holds, with %d edges in a greatest one", g, list, greatest)
			}
			for _, e := range m.pairs(true) {
				if missed>>e[0]&1 == 1 && missed>>e[1]&1 == 1 {
					t.Errorf("MatchFull(%v, %v) holds, but %v can be added", g, list, e)
				}
			}
		}
	}
}

func TestMatchFull(t *testing.T) {
	cases := []struct {
		g    []int
		m    [][]int
		want bool
	}{
		{[]int{0}, nil, true},
		{make([]int, 8), nil, true},
		{[]int{2, 1}, nil, false},
		{[]int{2, 1}, [][]int{{0, 1}}, true},
		// Full, but not greatest.
		{crooked, [][]int{{0, 1}}, true},
		{crooked, [][]int{{0, 2}}, false},
		{crooked, [][]int{{1, 3}}, false},
		{ring6, [][]int{{0, 1}, {3, 4}}, true},
		{ring6, [][]int{{0, 1}, {2, 3}}, false},
		{[]int{6, 5, 3}, [][]int{{0, 2}}, true},
		{full8, [][]int{{0, 1}, {2, 3}, {4, 5}}, false},
		{full8, [][]int{{0, 1}, {2, 3}, {4, 5}, {6, 7}}, true},
		{mixed, [][]int{{0, 1}, {3, 6}, {4, 5}}, true},
		{mixed, [][]int{{0, 1}, {4, 5}}, false},
	}
	for _, c := range cases {
		if got := impl.MatchFull(c.g, c.m); got != c.want {
			t.Errorf("MatchFull(%v, %v) is %v", c.g, c.m, got)
		}
	}
}

func TestPromise22(t *testing.T) {
	for _, m := range sampleGraphs() {
		g := m.list()
		for _, list := range m.matchings() {
			full := impl.MatchFull(g, list)
			if full != m.isFull(list) {
				t.Errorf("MatchFull(%v, %v) is %v", g, list, full)
			}
			if !full {
				continue
			}
			if !impl.MatchIn(g, list) {
				t.Errorf("MatchFull(%v, %v) holds, but not MatchIn", g, list)
			}
			if longer, ok := impl.MatchLonger(g, list); ok && len(longer) != len(list)+1 {
				t.Errorf("MatchLonger(%v, %v) returned %v", g, list, longer)
			}
		}
	}
}

func TestMatchExchange(t *testing.T) {
	cases := []struct {
		g           []int
		m, k        [][]int
		ways, rings int
	}{
		{[]int{0}, nil, nil, 0, 0},
		{make([]int, 8), nil, [][]int{}, 0, 0},
		{[]int{2, 1}, nil, [][]int{{0, 1}}, 1, 0},
		{[]int{2, 1}, [][]int{{0, 1}}, [][]int{{0, 1}}, 0, 0},
		{full4, [][]int{{0, 1}, {2, 3}}, [][]int{{0, 2}, {1, 3}}, 0, 1},
		{full4, [][]int{{0, 1}, {2, 3}}, nil, 2, 0},
		// One way of two edges, and one edge in both.
		{full8, [][]int{{0, 1}, {4, 5}}, [][]int{{1, 2}, {4, 5}}, 1, 0},
		{crooked, [][]int{{0, 1}}, [][]int{{0, 2}, {1, 3}}, 1, 0},
		{ring6, [][]int{{0, 1}, {2, 3}, {4, 5}}, [][]int{{0, 5}, {1, 2}, {3, 4}}, 0, 1},
		{ring6, [][]int{{0, 1}, {2, 3}, {4, 5}}, [][]int{{1, 2}, {4, 5}}, 1, 0},
		// Two ways at one node of the ring, which has none of both.
		{ring6, [][]int{{1, 2}}, [][]int{{3, 4}}, 2, 0},
		{full8, [][]int{{0, 1}, {2, 3}, {4, 5}, {6, 7}}, [][]int{{0, 2}, {1, 3}, {4, 6}, {5, 7}}, 0, 2},
		{full8, [][]int{{0, 1}, {2, 3}, {4, 5}, {6, 7}}, [][]int{{0, 7}, {1, 2}, {3, 4}, {5, 6}}, 0, 1},
		{full8, [][]int{{0, 1}, {2, 3}, {4, 5}, {6, 7}}, [][]int{{0, 1}, {2, 7}, {3, 4}, {5, 6}}, 0, 1},
		{full8, [][]int{{0, 1}, {2, 3}, {4, 5}}, [][]int{{0, 3}, {1, 2}, {5, 6}}, 1, 1},
		{full8, [][]int{{0, 1}, {2, 3}, {4, 5}, {6, 7}}, nil, 4, 0},
	}
	for _, c := range cases {
		for _, turned := range []bool{false, true} {
			if turned {
				c.m, c.k = c.k, c.m
			}
			if ways, rings, ok := impl.MatchExchange(c.g, c.m, c.k); !ok || ways != c.ways || rings != c.rings {
				t.Errorf("MatchExchange(%v, %v, %v) returned %d, %d, %v, want %d and %d", c.g, c.m, c.k, ways, rings, ok, c.ways, c.rings)
			}
		}
	}
	if ways, rings, ok := impl.MatchExchange(crooked, [][]int{{0, 1}}, [][]int{{0, 3}}); ok || ways != 0 || rings != 0 {
		t.Errorf("MatchExchange with a second list that is no matching returned %d, %d, %v", ways, rings, ok)
	}
}

// TestPromise23 exchanges all pairs of matchings of small graphs, and of greater ones some.
func TestPromise23(t *testing.T) {
	for _, m := range sampleGraphs() {
		g, all := m.list(), m.matchings()
		skip := 1
		if len(all) > 40 {
			skip = 307
		}
		for i := 0; i < len(all)*len(all); i += skip {
			a, b := all[i/len(all)], all[i%len(all)]
			ways, rings, ok := impl.MatchExchange(g, a, b)
			if wantWays, wantRings := exchange(len(m), a, b); !ok || ways != wantWays || rings != wantRings {
				t.Errorf("MatchExchange(%v, %v, %v) returned %d, %d, %v, want %d, %d", g, a, b, ways, rings, ok, wantWays, wantRings)
			}
			if back, around, ok := impl.MatchExchange(g, b, a); !ok || back != ways || around != rings {
				t.Errorf("MatchExchange(%v, %v, %v) is not the same for both exchanged", g, a, b)
			}
			if ways < max(len(a)-len(b), len(b)-len(a)) {
				t.Errorf("MatchExchange(%v, %v, %v) returned %d ways", g, a, b, ways)
			}
			if 2*len(a) == len(m) && 2*len(b) == len(m) && (ways != 0 || sameLists(a, b) != (rings == 0)) {
				t.Errorf("MatchExchange(%v, %v, %v) returned %d ways and %d rings", g, a, b, ways, rings)
			}
		}
	}
}

func TestMatchLonger(t *testing.T) {
	cases := []struct {
		g    []int
		m    [][]int
		want [][]int
	}{
		{[]int{2, 1}, nil, [][]int{{0, 1}}},
		{full4, nil, [][]int{{0, 1}}},
		// The longer one need not have the edges of the first one.
		{full4, [][]int{{0, 2}}, [][]int{{0, 1}, {2, 3}}},
		{full4, [][]int{{1, 2}}, [][]int{{0, 1}, {2, 3}}},
		{crooked, nil, [][]int{{0, 1}}},
		{crooked, [][]int{{0, 1}}, [][]int{{0, 2}, {1, 3}}},
		{ring6, [][]int{{0, 5}, {2, 3}}, [][]int{{0, 1}, {2, 3}, {4, 5}}},
		{ring6, [][]int{{3, 4}}, [][]int{{0, 1}, {2, 3}}},
		{full8, [][]int{{2, 7}, {3, 6}, {4, 5}}, [][]int{{0, 1}, {2, 3}, {4, 5}, {6, 7}}},
		{mixed, [][]int{{5, 7}}, [][]int{{0, 1}, {3, 6}}},
		{mixed, [][]int{{0, 2}, {5, 7}}, [][]int{{0, 1}, {3, 6}, {4, 5}}},
	}
	for _, c := range cases {
		got, ok := impl.MatchLonger(c.g, c.m)
		wantLists(t, "MatchLonger", got, ok, c.want...)
	}
	greatest := []struct {
		g []int
		m [][]int
	}{
		{[]int{0}, nil},
		{make([]int, 8), nil},
		{[]int{2, 1}, [][]int{{0, 1}}},
		{[]int{6, 5, 3}, [][]int{{1, 2}}},
		{crooked, [][]int{{0, 2}, {1, 3}}},
		{mixed, [][]int{{1, 2}, {3, 6}, {5, 7}}},
		{full8, [][]int{{0, 7}, {1, 6}, {2, 5}, {3, 4}}},
	}
	for _, c := range greatest {
		got, ok := impl.MatchLonger(c.g, c.m)
		wantNoLists(t, "MatchLonger of a greatest matching", got, ok)
	}
}

func TestPromise24(t *testing.T) {
	for _, m := range sampleGraphs() {
		g, all := m.list(), m.matchings()
		firsts := [][][]int{}
		for edges := range numbersOf(all) {
			firsts = append(firsts, ofSize(all, edges)[0])
		}
		for _, list := range all {
			got, ok := impl.MatchLonger(g, list)
			if len(list)+1 == len(firsts) {
				wantNoLists(t, "MatchLonger of a greatest matching", got, ok)
				continue
			}
			wantLists(t, "MatchLonger", got, ok, firsts[len(list)+1]...)
			if !impl.MatchIn(g, got) || len(got) != len(list)+1 {
				t.Errorf("MatchLonger(%v, %v) returned %v", g, list, got)
			}
		}
	}
}

func TestPromise25(t *testing.T) {
	for _, m := range sampleGraphs() {
		g := m.list()
		got, ok := impl.MatchAll(g)
		wantNumber(t, "MatchAll", got, ok, len(m.matchings()))
		if len(m) == 1 {
			continue
		}
		want := countOf(t, withoutNode(t, g, 0))
		for w := range m {
			switch {
			case m[0][w] && len(m) == 2:
				// No node is left, and one matching without edges.
				want++
			case m[0][w]:
				want += countOf(t, withoutNode(t, withoutNode(t, g, w), 0))
			}
		}
		wantNumber(t, "MatchAll by the node 0", got, ok, want)
	}
}

func TestMatchAllowed(t *testing.T) {
	cases := []struct {
		what string
		g    []int
		want [][]int
	}{
		{"one node", []int{0}, nil},
		{"two nodes without edges", []int{0, 0}, nil},
		{"8 nodes without edges", make([]int, 8), nil},
		{"an edge", []int{2, 1}, [][]int{{0, 1}}},
		{"an edge and a node alone", []int{2, 1, 0}, nil},
		{"an edge and two nodes alone", []int{2, 1, 0, 0}, nil},
		{"a ring of 3", []int{6, 5, 3}, nil},
		{"a star of 4", []int{14, 1, 1, 1}, nil},
		{"the full graph of 7", []int{126, 125, 123, 119, 111, 95, 63}, nil},
		{"several parts without a perfect matching", mixed, nil},
		{"a way of 4", []int{2, 5, 10, 4}, [][]int{{0, 1}, {2, 3}}},
		{"a way that is not straight", crooked, [][]int{{0, 2}, {1, 3}}},
		{"a ring of 6", ring6, [][]int{{0, 1}, {0, 5}, {1, 2}, {2, 3}, {3, 4}, {4, 5}}},
		{"the full graph of 4", full4, [][]int{{0, 1}, {0, 2}, {0, 3}, {1, 2}, {1, 3}, {2, 3}}},
		// A ring of 4, an edge that leads out of it, and the way 4, 5.
		{"a ring and a way, linked", []int{10, 5, 10, 21, 40, 16}, [][]int{{0, 1}, {0, 3}, {1, 2}, {2, 3}, {4, 5}}},
	}
	for _, c := range cases {
		got, ok := impl.MatchAllowed(c.g)
		wantLists(t, "MatchAllowed of "+c.what, got, ok, c.want...)
	}
}

func TestPromise26(t *testing.T) {
	for _, m := range sampleGraphs() {
		g := m.list()
		perfect, ok := impl.MatchPerfect(g)
		wantMatchings(t, "MatchPerfect", perfect, ok, perfectOf(m.matchings(), len(m))...)
		want := [][]int{}
		for _, e := range m.pairs(true) {
			if slices.ContainsFunc(perfect, func(list [][]int) bool { return hasEdge(list, e) }) {
				want = append(want, e)
			}
		}
		got, ok := impl.MatchAllowed(g)
		wantLists(t, "MatchAllowed", got, ok, want...)
	}
}
