package tests

import (
	"testing"

	"loop.example/matchpolys/impl"
)

// tableNumbers are the functions that return a number of a table.
func tableNumbers() map[string]func([][]int) (int, bool) {
	return map[string]func([][]int) (int, bool){
		"TablePfaffian":  impl.TablePfaffian,
		"TableHafnian":   impl.TableHafnian,
		"TableDet":       impl.TableDet,
		"TablePermanent": impl.TablePermanent,
	}
}

// tableReports are the functions that report something of a table.
func tableReports() map[string]func([][]int) bool {
	return map[string]func([][]int) bool{"TableIn": impl.TableIn, "TableSkew": impl.TableSkew, "TableEven": impl.TableEven}
}

func TestTableNone(t *testing.T) {
	for what, table := range badTables() {
		for name, call := range tableReports() {
			if call(table) {
				t.Errorf("%s of %s holds", name, what)
			}
		}
		for name, call := range tableNumbers() {
			number, ok := call(table)
			wantNoNumber(t, name+" of "+what, number, ok)
		}
	}
}

// TestTableKinds tells the functions that report, and those that fail for tables that are not skew or not even, by the number of rows.
func TestTableKinds(t *testing.T) {
	one := tableOf(6, func(row, column int) int { return 1 })
	cases := []struct {
		what       string
		table      [][]int
		skew, even bool
	}{
		{"a 0", [][]int{{0}}, true, true},
		{"a 1", [][]int{{1}}, false, false},
		{"a 30", [][]int{{30}}, false, false},
		{"a -30", [][]int{{-30}}, false, false},
		{"two rows of zeros", [][]int{{0, 0}, {0, 0}}, true, true},
		{"two rows, skew", [][]int{{0, 30}, {-30, 0}}, true, false},
		{"two rows, skew, the first number negative", [][]int{{0, -30}, {30, 0}}, true, false},
		{"two rows, even", [][]int{{0, 30}, {30, 0}}, false, true},
		{"two rows, even, negative", [][]int{{0, -30}, {-30, 0}}, false, true},
		{"two rows, a number above alone", [][]int{{0, 1}, {0, 0}}, false, false},
		{"two rows, a number below alone", [][]int{{0, 0}, {1, 0}}, false, false},
		{"two rows, other numbers", [][]int{{0, 2}, {-1, 0}}, false, false},
		{"two rows, skew but for the first number", [][]int{{1, 2}, {-2, 0}}, false, false},
		{"two rows, skew but for the last number", [][]int{{0, 2}, {-2, -1}}, false, false},
		{"two rows, even but for the first number", [][]int{{1, 2}, {2, 0}}, false, false},
		{"two rows, even but for the last number", [][]int{{0, 2}, {2, -1}}, false, false},
		{"two rows, even but for both numbers", [][]int{{1, 2}, {2, -1}}, false, false},
		{"three rows, skew", [][]int{{0, 1, -2}, {-1, 0, 3}, {2, -3, 0}}, true, false},
		{"three rows, even", [][]int{{0, 1, -2}, {1, 0, 3}, {-2, 3, 0}}, false, true},
		{"three rows, partly skew and partly even", [][]int{{0, 1, 2}, {-1, 0, 3}, {2, -3, 0}}, false, false},
		{"three rows, skew in a ring", [][]int{{0, 1, -1}, {-1, 0, -1}, {1, -1, 0}}, false, false},
		{"six rows of zeros", tableOf(6, func(int, int) int { return 0 }), true, true},
		{"six rows, skew", mirrored(6, repeated(30, 15), -1), true, false},
		{"six rows, even", mirrored(6, repeated(-30, 15), 1), false, true},
		{"six rows of 1", one, false, false},
		{"six rows, skew but for the last number", withNumber(mirrored(6, repeated(30, 15), -1), 5, 5, 30), false, false},
		{"six rows, even but for the last number", withNumber(mirrored(6, repeated(-30, 15), 1), 5, 5, -30), false, false},
	}
	for _, c := range cases {
		in, skew, even := impl.TableIn(c.table), impl.TableSkew(c.table), impl.TableEven(c.table)
		if !in || skew != c.skew || even != c.even {
			t.Errorf("%s: TableIn is %v, TableSkew %v, TableEven %v", c.what, in, skew, even)
		}
		if number, ok := impl.TablePfaffian(c.table); !c.skew {
			wantNoNumber(t, "TablePfaffian of "+c.what, number, ok)
		}
		if number, ok := impl.TableHafnian(c.table); !c.even {
			wantNoNumber(t, "TableHafnian of "+c.what, number, ok)
		}
	}
}

// TestTablePairs holds Pfaffians and Hafnians against numbers made by hand, for tables with the same numbers above.
func TestTablePairs(t *testing.T) {
	cases := []struct {
		n                 int
		upper             []int
		pfaffian, hafnian int
	}{
		{1, nil, 0, 0},
		{2, []int{0}, 0, 0},
		{2, []int{30}, 30, 30},
		{2, []int{-30}, -30, -30},
		{3, []int{0, 0, 0}, 0, 0},
		{3, []int{30, 30, 30}, 0, 0},
		{3, []int{-30, 30, 7}, 0, 0},
		// 1 times 6, 2 times 5, with the sign turned, and 3 times 4.
		{4, []int{1, 2, 3, 4, 5, 6}, 8, 28},
		{4, []int{1, 1, 1, 1, 1, 1}, 1, 3},
		{4, []int{30, 30, 30, 30, 30, 30}, 900, 2700},
		{4, []int{-30, -30, -30, -30, -30, -30}, 900, 2700},
		{4, []int{30, 30, 30, 30, -30, 30}, 2700, 900},
		{4, []int{1, 0, 0, 0, 0, -1}, -1, -1},
		{4, []int{0, 1, 0, 0, 1, 0}, -1, 1},
		{4, []int{0, 0, 1, 1, 0, 0}, 1, 1},
		{5, repeated(30, 10), 0, 0},
		{5, repeated(-1, 10), 0, 0},
		{6, repeated(0, 15), 0, 0},
		{6, repeated(1, 15), 1, 15},
		{6, repeated(-1, 15), -1, -15},
		{6, repeated(30, 15), 27000, 405000},
		{6, repeated(-30, 15), -27000, -405000},
		// The edges 01, 23 and 45: none crosses another one.
		{6, []int{2, 0, 0, 0, 0, 0, 0, 0, 0, 3, 0, 0, 0, 0, 5}, 30, 30},
		// The edges 03, 14 and 25: three pairs cross.
		{6, []int{0, 0, 2, 0, 0, 0, 0, 3, 0, 0, 0, 5, 0, 0, 0}, -30, 30},
		// The edges 02, 14 and 35: two pairs cross.
		{6, []int{0, 2, 0, 0, 0, 0, 0, 3, 0, 0, 0, 0, 0, 5, 0}, 30, 30},
		// The edges 05, 13 and 24: one pair crosses.
		{6, []int{0, 0, 0, 0, 2, 0, 3, 0, 0, 0, 5, 0, 0, 0, 0}, -30, 30},
		// The edges 05, 14 and 23: each one is within another one, or around it.
		{6, []int{0, 0, 0, 0, 2, 0, 0, 3, 0, 5, 0, 0, 0, 0, 0}, 30, 30},
	}
	for _, c := range cases {
		number, ok := impl.TablePfaffian(mirrored(c.n, c.upper, -1))
		wantNumber(t, "TablePfaffian", number, ok, c.pfaffian)
		number, ok = impl.TableHafnian(mirrored(c.n, c.upper, 1))
		wantNumber(t, "TableHafnian", number, ok, c.hafnian)
	}
}

// TestTableOrders holds determinants and permanents against numbers made by hand.
func TestTableOrders(t *testing.T) {
	across := func(number int) func(row, column int) int {
		return func(row, column int) int {
			if row+column == 5 {
				return number
			}
			return 0
		}
	}
	stair := func(row, column int) int { return min(row, column) + 1 }
	cases := []struct {
		what           string
		table          [][]int
		det, permanent int
	}{
		{"a 0", [][]int{{0}}, 0, 0},
		{"a -30", [][]int{{-30}}, -30, -30},
		{"two rows", [][]int{{1, 2}, {3, 4}}, -2, 10},
		{"two rows at the limits", [][]int{{30, 30}, {-30, 30}}, 1800, 0},
		{"three rows", [][]int{{1, 2, 4}, {1, 3, 9}, {1, 5, 25}}, 6, 220},
		{"three rows in a ring", [][]int{{0, 2, 0}, {0, 0, 3}, {5, 0, 0}}, 30, 30},
		{"three rows, two exchanged", [][]int{{0, 2, 0}, {3, 0, 0}, {0, 0, 5}}, -30, 30},
		{"three rows, one of zeros", [][]int{{1, 2, 3}, {0, 0, 0}, {4, 5, 6}}, 0, 0},
		{"four rows whose products of two are 0", [][]int{{30, 30, 30, 30}, {30, -30, 30, -30}, {30, 30, -30, -30}, {30, -30, -30, 30}}, 12960000, 6480000},
		{"a stair of 5", tableOf(5, stair), 1, 3545},
		{"five rows of -30", tableOf(5, func(int, int) int { return -30 }), 0, -2916000000},
		{"six rows of 1", tableOf(6, func(int, int) int { return 1 }), 0, 720},
		{"six rows of 30", tableOf(6, func(int, int) int { return 30 }), 0, 524880000000},
		{"six rows of -30", tableOf(6, func(int, int) int { return -30 }), 0, 524880000000},
		{"six rows, 30 from corner to corner", tableOf(6, across(30)), -729000000, 729000000},
		{"six rows, -1 from corner to corner", tableOf(6, across(-1)), -1, 1},
		{"six rows of a skew table", mirrored(6, repeated(30, 15), -1), 729000000, -44469000000},
	}
	for _, c := range cases {
		number, ok := impl.TableDet(c.table)
		wantNumber(t, "TableDet of "+c.what, number, ok, c.det)
		number, ok = impl.TablePermanent(c.table)
		wantNumber(t, "TablePermanent of "+c.what, number, ok, c.permanent)
	}
}

func TestPromise51(t *testing.T) {
	for _, table := range sampleTables() {
		if !impl.TableIn(table) {
			t.Errorf("TableIn(%v) does not hold", table)
		}
		det, permanent := overOrders(table)
		gotDet, ok := impl.TableDet(table)
		wantNumber(t, "TableDet", gotDet, ok, det)
		gotPermanent, ok := impl.TablePermanent(table)
		wantNumber(t, "TablePermanent", gotPermanent, ok, permanent)
		if (gotDet-gotPermanent)%2 != 0 {
			t.Errorf("TableDet(%v) is %d, TablePermanent %d", table, gotDet, gotPermanent)
		}
	}
}

// wantSkew checks TableSkew and TablePfaffian.
func wantSkew(t *testing.T, table [][]int, perfect [][][]int) {
	t.Helper()
	skew := impl.TableSkew(table)
	if skew != isMirrored(table, -1) {
		t.Errorf("TableSkew(%v) is %v", table, skew)
	}
	number, ok := impl.TablePfaffian(table)
	if !skew {
		wantNoNumber(t, "TablePfaffian of a table that is not skew", number, ok)
		return
	}
	pfaffian, _ := overPairs(table, perfect)
	wantNumber(t, "TablePfaffian", number, ok, pfaffian)
	if impl.TableEven(table) != isZero(table) {
		t.Errorf("TableSkew(%v) holds, and TableEven is %v", table, impl.TableEven(table))
	}
}

// TestPromise52 takes tables that are skew, such as are but for one number, and others.
func TestPromise52(t *testing.T) {
	perfect := fullPerfect()
	for _, table := range sampleTables() {
		wantSkew(t, table, perfect[len(table)])
	}
	for _, table := range spoiledTables(skewTables()) {
		wantSkew(t, table, perfect[len(table)])
		if impl.TableSkew(table) {
			t.Errorf("TableSkew(%v) holds", table)
		}
	}
}

// wantEven checks TableEven and TableHafnian.
func wantEven(t *testing.T, table [][]int, perfect [][][]int) {
	t.Helper()
	even := impl.TableEven(table)
	if even != isMirrored(table, 1) {
		t.Errorf("TableEven(%v) is %v", table, even)
	}
	number, ok := impl.TableHafnian(table)
	if !even {
		wantNoNumber(t, "TableHafnian of a table that is not even", number, ok)
		return
	}
	_, hafnian := overPairs(table, perfect)
	wantNumber(t, "TableHafnian", number, ok, hafnian)
	if len(table)%2 == 1 && number != 0 {
		t.Errorf("TableHafnian(%v) is %d", table, number)
	}
}

func TestPromise53(t *testing.T) {
	perfect := fullPerfect()
	for _, table := range sampleTables() {
		wantEven(t, table, perfect[len(table)])
	}
	for _, table := range spoiledTables(evenTables()) {
		wantEven(t, table, perfect[len(table)])
		if impl.TableEven(table) {
			t.Errorf("TableEven(%v) holds", table)
		}
	}
}

func TestPromise54(t *testing.T) {
	for _, table := range skewTables() {
		pfaffian, det := pfaffianOf(t, table), detOf(t, table)
		if pfaffian*pfaffian != det || len(table)%2 == 1 && pfaffian != 0 {
			t.Errorf("TablePfaffian(%v) is %d, TableDet %d", table, pfaffian, det)
		}
	}
}

func TestPromise55(t *testing.T) {
	for _, table := range skewTables() {
		if len(table) < 2 {
			continue
		}
		other := bothSwapped(table)
		if got, want := pfaffianOf(t, other), -pfaffianOf(t, table); got != want {
			t.Errorf("TablePfaffian(%v) is %d, and it is %d with the first two exchanged", table, -want, got)
		}
	}
}

func TestTableGraph(t *testing.T) {
	cases := []struct {
		g    []int
		want [][]int
	}{
		{[]int{0}, [][]int{{0}}},
		{[]int{2, 1}, [][]int{{0, 1}, {1, 0}}},
		{[]int{6, 5, 3}, [][]int{{0, 1, 1}, {1, 0, 1}, {1, 1, 0}}},
		{crooked, [][]int{{0, 1, 1, 0}, {1, 0, 0, 1}, {1, 0, 0, 0}, {0, 1, 0, 0}}},
		{make([]int, 6), tableOf(6, func(int, int) int { return 0 })},
		{[]int{62, 61, 59, 55, 47, 31}, mirrored(6, repeated(1, 15), 1)},
	}
	for _, c := range cases {
		if got, ok := impl.TableGraph(c.g); !ok || !sameLists(got, c.want) {
			t.Errorf("TableGraph(%v) returned %v, %v, want %v, true", c.g, got, ok, c.want)
		}
	}
	for what, g := range badGraphs() {
		got, ok := impl.TableGraph(g)
		wantNoLists(t, "TableGraph of "+what, got, ok)
	}
	for _, g := range greatGraphs() {
		got, ok := impl.TableGraph(g)
		wantNoLists(t, "TableGraph of more than 6 nodes", got, ok)
	}
}

func TestPromise56(t *testing.T) {
	for _, m := range smallOnes() {
		g := m.list()
		table, ok := impl.TableGraph(g)
		want := tableOf(len(m), func(row, column int) int {
			if m[row][column] {
				return 1
			}
			return 0
		})
		if !ok || !sameLists(table, want) || !impl.TableEven(table) {
			t.Errorf("TableGraph(%v) returned %v, %v, want %v, true", g, table, ok, want)
			continue
		}
		hafnian := hafnianOf(t, table)
		if hafnian != perfectCount(t, g) || hafnian != len(perfectOf(m.matchings(), len(m))) {
			t.Errorf("TableHafnian of TableGraph(%v) is %d", g, hafnian)
		}
		if permanent := permanentOf(t, table); hafnian*hafnian > permanent {
			t.Errorf("TableHafnian of TableGraph(%v) is %d, TablePermanent %d", g, hafnian, permanent)
		}
	}
}

func TestPromise57(t *testing.T) {
	doubled := 0
	for _, table := range evenTables() {
		twice := tableOf(len(table), func(row, column int) int { return 2 * table[row][column] })
		if !impl.TableIn(twice) {
			continue
		}
		doubled++
		if got, want := hafnianOf(t, twice), hafnianOf(t, table)<<(len(table)/2); got != want {
			t.Errorf("TableHafnian(%v) is %d, want %d", twice, got, want)
		}
	}
	if doubled < 100 {
		t.Errorf("just %d tables were doubled", doubled)
	}
}

func TestPromise58(t *testing.T) {
	for _, table := range sampleTables() {
		det := detOf(t, table)
		if got := detOf(t, acrossOf(table)); got != det {
			t.Errorf("TableDet(%v) is %d, and with rows and columns exchanged %d", table, det, got)
		}
		if len(table) < 2 {
			continue
		}
		if got := detOf(t, rowsSwapped(table)); got != -det {
			t.Errorf("TableDet(%v) is %d, and with the first rows exchanged %d", table, det, got)
		}
	}
}

func TestPromise59(t *testing.T) {
	for _, table := range sampleTables() {
		permanent := permanentOf(t, table)
		if got := permanentOf(t, acrossOf(table)); got != permanent {
			t.Errorf("TablePermanent(%v) is %d, and with rows and columns exchanged %d", table, permanent, got)
		}
		if len(table) < 2 {
			continue
		}
		if got := permanentOf(t, rowsSwapped(table)); got != permanent {
			t.Errorf("TablePermanent(%v) is %d, and with the first rows exchanged %d", table, permanent, got)
		}
	}
}

// TestTablePointOfNoMatching turns edges that are no matching, as they are not in order or have a node in common.
func TestTablePointOfNoMatching(t *testing.T) {
	m := matrixOf(6, edgesOf(t, ring6))
	good := 0
	for what, turned := range badMatchings() {
		if !m.areTurned(turned) {
			continue
		}
		good++
		got, ok := impl.TablePoint(ring6, turned)
		if want := (pointing{m, turned}).table(); !ok || !sameLists(got, want) {
			t.Errorf("TablePoint of %s returned %v, %v, want %v, true", what, got, ok, want)
		}
	}
	if good == 0 {
		t.Error("all lists had something else that is wrong")
	}
}

func TestTablePoint(t *testing.T) {
	cases := []struct {
		g      []int
		turned [][]int
		want   [][]int
	}{
		{[]int{0}, nil, [][]int{{0}}},
		{[]int{0}, [][]int{}, [][]int{{0}}},
		{[]int{2, 1}, nil, [][]int{{0, 1}, {-1, 0}}},
		{[]int{2, 1}, [][]int{{0, 1}}, [][]int{{0, -1}, {1, 0}}},
		{[]int{6, 5, 3}, [][]int{{0, 2}}, [][]int{{0, 1, -1}, {-1, 0, 1}, {1, -1, 0}}},
		{[]int{6, 5, 3}, [][]int{{1, 2}, {0, 1}}, [][]int{{0, -1, 1}, {1, 0, -1}, {-1, 1, 0}}},
		{crooked, [][]int{{1, 3}}, [][]int{{0, 1, 1, 0}, {-1, 0, 0, -1}, {-1, 0, 0, 0}, {0, 1, 0, 0}}},
		{crooked, [][]int{{1, 3}, {0, 1}, {0, 2}}, [][]int{{0, -1, -1, 0}, {1, 0, 0, -1}, {1, 0, 0, 0}, {0, 1, 0, 0}}},
		{make([]int, 6), nil, tableOf(6, func(int, int) int { return 0 })},
		{[]int{62, 61, 59, 55, 47, 31}, nil, mirrored(6, repeated(1, 15), -1)},
		{[]int{62, 61, 59, 55, 47, 31}, bareMatrix(6).pairs(false), mirrored(6, repeated(-1, 15), -1)},
	}
	for _, c := range cases {
		if got, ok := impl.TablePoint(c.g, c.turned); !ok || !sameLists(got, c.want) {
			t.Errorf("TablePoint(%v, %v) returned %v, %v, want %v, true", c.g, c.turned, got, ok, c.want)
		}
	}
}

// TestTableNoPointing calls the functions that point a graph with lists that are no graphs, with too many nodes, and with edges that are none.
func TestTableNoPointing(t *testing.T) {
	wantNone := func(what string, g []int, turned [][]int) {
		t.Helper()
		got, ok := impl.TablePoint(g, turned)
		wantNoLists(t, "TablePoint of "+what, got, ok)
		if impl.TableFits(g, turned) {
			t.Errorf("TableFits of %s holds", what)
		}
	}
	for what, g := range badGraphs() {
		for _, turned := range [][][]int{nil, {}, {{0, 1}}, {{1, 0}}, {{0, 1}, {0, 1}}} {
			wantNone(what, g, turned)
		}
	}
	for _, g := range greatGraphs() {
		wantNone("more than 6 nodes", g, nil)
		wantNone("more than 6 nodes, with a turned edge", g, [][]int{{0, 1}})
	}
	for what, turned := range badTurned() {
		wantNone("the ring of 6, turned "+what, ring6, turned)
		wantNone("one node, turned "+what, []int{0}, turned)
	}
	wantNone("a graph without edges, with one turned", make([]int, 6), [][]int{{0, 1}})
	wantNone("one node and itself", []int{0}, [][]int{{0, 0}})
}

func TestTableFits(t *testing.T) {
	ring4 := []int{10, 5, 10, 5}
	cases := []struct {
		what   string
		g      []int
		turned [][]int
		want   bool
	}{
		{"one node", []int{0}, nil, true},
		{"two nodes without an edge", []int{0, 0}, nil, true},
		{"an edge", []int{2, 1}, nil, true},
		{"an edge, turned", []int{2, 1}, [][]int{{0, 1}}, true},
		{"a ring of 3", []int{6, 5, 3}, [][]int{{0, 2}}, true},
		{"a ring of 4", ring4, nil, true},
		{"a ring of 4, an edge turned", ring4, [][]int{{0, 1}}, false},
		{"a ring of 4, the last edge turned", ring4, [][]int{{2, 3}}, false},
		{"a ring of 4, two edges with a common node turned", ring4, [][]int{{0, 1}, {0, 3}}, true},
		{"a ring of 4, two other edges turned", ring4, [][]int{{0, 1}, {2, 3}}, true},
		{"a ring of 4, all but an edge turned", ring4, [][]int{{0, 1}, {0, 3}, {1, 2}}, false},
		{"a ring of 4, all edges turned", ring4, [][]int{{0, 1}, {0, 3}, {1, 2}, {2, 3}}, true},
		{"the full graph of 4", full4, nil, false},
		{"the full graph of 4, an edge across turned", full4, [][]int{{0, 2}}, true},
		{"the full graph of 4, the other edge across turned", full4, [][]int{{1, 3}}, true},
		{"the full graph of 4, another edge turned", full4, [][]int{{0, 1}}, false},
		{"the full graph of 4, a negative Pfaffian", full4, [][]int{{0, 1}, {0, 3}}, true},
		{"a ring of 6", ring6, nil, true},
		{"a ring of 6, an edge turned", ring6, [][]int{{0, 5}}, false},
		{"a ring of 6, three edges of a perfect matching turned", ring6, [][]int{{0, 1}, {2, 3}, {4, 5}}, false},
		{"a ring of 6, all edges turned", ring6, [][]int{{0, 1}, {0, 5}, {1, 2}, {2, 3}, {3, 4}, {4, 5}}, true},
		{"a way with one perfect matching, an edge turned", crooked, [][]int{{1, 3}}, true},
		{"a star without a perfect matching", []int{14, 1, 1, 1}, [][]int{{0, 2}}, true},
		{"6 nodes without edges", make([]int, 6), nil, true},
	}
	for _, c := range cases {
		if got := impl.TableFits(c.g, c.turned); got != c.want {
			t.Errorf("TableFits of %s is %v", c.what, got)
		}
	}
	// Three nodes that are neighbours of three other ones: however it is pointed, it does not fit.
	three := []int{56, 56, 56, 7, 7, 7}
	for bits := range 1 << 9 {
		if turned := chosen(edgesOf(t, three), bits); impl.TableFits(three, turned) {
			t.Errorf("TableFits of three and three nodes holds, turned %v", turned)
		}
	}
}

func TestPromise60(t *testing.T) {
	for _, p := range pointings() {
		g := p.m.list()
		table, ok := impl.TablePoint(g, p.turned)
		if want := p.table(); !ok || !sameLists(table, want) {
			t.Errorf("TablePoint(%v, %v) returned %v, %v, want %v, true", g, p.turned, table, ok, want)
			continue
		}
		if !impl.TableSkew(table) {
			t.Errorf("TablePoint(%v, %v) is %v, which is not skew", g, p.turned, table)
		}
		pfaffian, perfect := pfaffianOf(t, table), perfectCount(t, g)
		if pfaffian > perfect || pfaffian < -perfect || (perfect-pfaffian)%2 != 0 {
			t.Errorf("TablePoint(%v, %v) has the Pfaffian %d, and the graph %d perfect matchings", g, p.turned, pfaffian, perfect)
		}
	}
}

// otherwise returns a list of turned edges with all edges of the node 0 turned the other way.
func (p pointing) otherwise() [][]int {
	turned := [][]int{}
	for _, e := range p.m.pairs(true) {
		if hasEdge(p.turned, e) != (e[0] == 0) {
			turned = append(turned, e)
		}
	}
	return turned
}

func TestPromise61(t *testing.T) {
	fits := 0
	for _, p := range pointings() {
		g := p.m.list()
		perfect := perfectOf(p.m.matchings(), len(p.m))
		pfaffian, _ := overPairs(p.table(), perfect)
		want := max(pfaffian, -pfaffian) == len(perfect)
		if got := impl.TableFits(g, p.turned); got != want {
			t.Errorf("TableFits(%v, %v) is %v", g, p.turned, got)
		}
		if got := impl.TableFits(g, p.otherwise()); got != want {
			t.Errorf("TableFits(%v, %v) is %v with the edges of the node 0 turned the other way", g, p.turned, got)
		}
		if want && pfaffian < -1 {
			fits++
		}
	}
	if fits == 0 {
		t.Error("no Pfaffian was negative")
	}
}

func TestPromise62(t *testing.T) {
	var none, one int
	for _, p := range pointings() {
		g := p.m.list()
		_, ok := impl.TablePoint(g, p.turned)
		number := perfectCount(t, g)
		if !ok || number > 1 {
			continue
		}
		one += number
		none += 1 - number
		if !impl.TableFits(g, p.turned) {
			t.Errorf("TableFits(%v, %v) does not hold, with %d perfect matchings", g, p.turned, number)
		}
	}
	if none == 0 || one == 0 {
		t.Errorf("%d graphs had no perfect matching, and %d just one", none, one)
	}
}
