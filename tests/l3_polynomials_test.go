package tests

import (
	"slices"
	"testing"

	"loop.example/matchpolys/impl"
)

func TestDegreeMax(t *testing.T) {
	if impl.DegreeMax != degreeMax {
		t.Errorf("DegreeMax is %d, want %d", impl.DegreeMax, degreeMax)
	}
}

func TestPolyIn(t *testing.T) {
	good := [][]int{nil, {}, {1}, {-1}, {0, 1}, {0, 0, -5}, {polyMax}, {-polyMax}, {polyMax, -polyMax, polyMax}, {0, polyMax, 1}, repeated(1, 21), repeated(-polyMax, 21), raised(1, 20), raised(polyMax, 20)}
	for _, p := range good {
		if !impl.PolyIn(p) {
			t.Errorf("PolyIn(%v) does not hold", p)
		}
	}
	for what, p := range badPolys() {
		if impl.PolyIn(p) {
			t.Errorf("PolyIn of %s holds", what)
		}
	}
	for length := range 30 {
		if got := impl.PolyIn(repeated(1, length)); got != (length <= 21) {
			t.Errorf("PolyIn of %d numbers is %v", length, got)
		}
	}
}

// TestPolyInAll holds PolyIn against the document, for all lists of up to 4 of some numbers.
func TestPolyInAll(t *testing.T) {
	var try func(list []int)
	try = func(list []int) {
		if got := impl.PolyIn(list); got != isPoly(list) {
			t.Errorf("PolyIn(%v) is %v", list, got)
		}
		if len(list) == 4 {
			return
		}
		for _, number := range []int{0, 1, -1, polyMax, polyMax + 1, -polyMax, -polyMax - 1} {
			try(append(slices.Clone(list), number))
		}
	}
	try(nil)
}

func TestPromise27(t *testing.T) {
	for _, p := range samplePolys() {
		if !impl.PolyIn(p) {
			t.Errorf("PolyIn(%v) does not hold", p)
		}
		for _, zero := range [][]int{nil, {}} {
			got, ok := impl.PolyAdd(p, zero)
			wantList(t, "PolyAdd of a polynomial and 0", got, ok, p...)
			got, ok = impl.PolyAdd(zero, p)
			wantList(t, "PolyAdd of 0 and a polynomial", got, ok, p...)
		}
	}
	for what, p := range badPolys() {
		got, ok := impl.PolyAdd(p, nil)
		wantNoList(t, "PolyAdd of 0 and of "+what, got, ok)
	}
}

func TestPolyAdd(t *testing.T) {
	cases := []struct{ p, q, want []int }{
		{nil, nil, nil},
		{[]int{1}, []int{2}, []int{3}},
		{[]int{1, 2, 3}, []int{10, 20}, []int{11, 22, 3}},
		{[]int{0, 0, 1}, []int{5}, []int{5, 0, 1}},
		// The last numbers are lost.
		{[]int{5}, []int{-5}, nil},
		{[]int{1, 2, 3}, []int{0, 0, -3}, []int{1, 2}},
		{[]int{1, 2, 3}, []int{4, -2, -3}, []int{5}},
		{[]int{1, 2, 3}, []int{-1, -2, -3}, nil},
		{[]int{0, 2, 3}, []int{0, 1, -3}, []int{0, 3}},
		{repeated(1, 21), repeated(-1, 21), nil},
		{repeated(1, 21), repeated(-1, 20), raised(1, 20)},
		{repeated(1, 21), raised(-1, 20), repeated(1, 20)},
		// The numbers of the sum are just small enough.
		{[]int{polyMax - 1}, []int{1}, []int{polyMax}},
		{[]int{-polyMax + 1}, []int{-1}, []int{-polyMax}},
		{[]int{500000000}, []int{500000000}, []int{polyMax}},
		{[]int{polyMax, 1}, []int{-polyMax, 1}, []int{0, 2}},
		{raised(polyMax, 20), raised(-polyMax, 20), nil},
		{repeated(polyMax, 21), nil, repeated(polyMax, 21)},
	}
	for _, c := range cases {
		got, ok := impl.PolyAdd(c.p, c.q)
		wantList(t, "PolyAdd", got, ok, c.want...)
	}
	tooGreat := []struct{ p, q []int }{
		{[]int{polyMax}, []int{1}},
		{[]int{-polyMax}, []int{-1}},
		{[]int{polyMax}, []int{polyMax}},
		{[]int{1, polyMax, 1}, []int{1, 1, 1}},
		{[]int{1, -polyMax, 1}, []int{1, -1, -1}},
		{raised(polyMax, 20), raised(1, 20)},
		{[]int{500000001}, []int{500000000}},
	}
	for _, c := range tooGreat {
		got, ok := impl.PolyAdd(c.p, c.q)
		wantNoList(t, "PolyAdd with a sum too great", got, ok)
		got, ok = impl.PolyAdd(c.q, c.p)
		wantNoList(t, "PolyAdd with a sum too great, exchanged", got, ok)
	}
}

func TestPromise28(t *testing.T) {
	polys := samplePolys()
	for _, p := range polys {
		for _, q := range polys {
			got, ok := impl.PolyAdd(p, q)
			want := sumOf(p, q)
			if !isPoly(want) {
				wantNoList(t, "PolyAdd", got, ok)
				continue
			}
			wantList(t, "PolyAdd", got, ok, want...)
			back, fine := impl.PolyAdd(q, p)
			wantList(t, "PolyAdd of both exchanged", back, fine, got...)
			a, first := impl.PolyAt(p, 2)
			b, second := impl.PolyAt(q, 2)
			sum, third := impl.PolyAt(got, 2)
			if first && second && third && sum != a+b {
				t.Errorf("the values at 2 of %v and %v are %d and %d, that of the sum is %d", p, q, a, b, sum)
			}
		}
	}
}

// TestPolyNoPoly calls all functions of polynomials with lists that are none, beside a polynomial and beside 0.
func TestPolyNoPoly(t *testing.T) {
	for what, p := range badPolys() {
		for _, q := range [][]int{nil, {1}, {-1, 1}, p} {
			got, ok := impl.PolyAdd(p, q)
			wantNoList(t, "PolyAdd of "+what, got, ok)
			got, ok = impl.PolyAdd(q, p)
			wantNoList(t, "PolyAdd, second, of "+what, got, ok)
			got, ok = impl.PolyTimes(p, q)
			wantNoList(t, "PolyTimes of "+what, got, ok)
			got, ok = impl.PolyTimes(q, p)
			wantNoList(t, "PolyTimes, second, of "+what, got, ok)
		}
		got, ok := impl.PolyDerive(p)
		wantNoList(t, "PolyDerive of "+what, got, ok)
		for _, x := range []int{0, 1, -1, 20, -20, 21} {
			number, ok := impl.PolyAt(p, x)
			wantNoNumber(t, "PolyAt of "+what, number, ok)
		}
	}
}

func TestPolyTimes(t *testing.T) {
	cases := []struct{ p, q, want []int }{
		{nil, nil, nil},
		{nil, []int{factorMax}, nil},
		{nil, repeated(factorMax, 21), nil},
		{[]int{1}, []int{7, 0, 8}, []int{7, 0, 8}},
		{[]int{-2}, []int{7, 0, 8}, []int{-14, 0, -16}},
		{[]int{0, 1}, []int{0, 0, 1}, raised(1, 3)},
		{[]int{1, 1}, []int{-1, 1}, []int{-1, 0, 1}},
		{[]int{1, 2, 3}, []int{4, 5}, []int{4, 13, 22, 15}},
		// Both have together just DegreeMax + 2 numbers.
		{[]int{3}, repeated(2, 21), repeated(6, 21)},
		{[]int{1, 1}, repeated(1, 20), append(append([]int{1}, repeated(2, 19)...), 1)},
		{repeated(1, 11), repeated(1, 11), []int{1, 2, 3, 4, 5, 6, 7, 8, 9, 10, 11, 10, 9, 8, 7, 6, 5, 4, 3, 2, 1}},
		{raised(1, 10), raised(1, 10), raised(1, 20)},
		// The numbers are just small enough, and those of the product.
		{[]int{factorMax}, []int{1}, []int{factorMax}},
		{[]int{factorMax}, []int{10000}, []int{polyMax}},
		{[]int{-factorMax}, []int{10000}, []int{-polyMax}},
		{[]int{-factorMax}, []int{-10000}, []int{polyMax}},
		{[]int{1, factorMax}, []int{0, 9999, 1}, []int{0, 9999, 999900001, factorMax}},
		{[]int{0, factorMax}, []int{1, 10000, 1}, []int{0, factorMax, polyMax, factorMax}},
	}
	for _, c := range cases {
		got, ok := impl.PolyTimes(c.p, c.q)
		wantList(t, "PolyTimes", got, ok, c.want...)
		got, ok = impl.PolyTimes(c.q, c.p)
		wantList(t, "PolyTimes, exchanged", got, ok, c.want...)
	}
	fails := []struct{ p, q []int }{
		// A number too great, also beside 0 and beside numbers that are not.
		{nil, []int{factorMax + 1}},
		{nil, []int{-factorMax - 1}},
		{[]int{1}, []int{factorMax + 1}},
		{[]int{1}, []int{-factorMax - 1}},
		{[]int{1}, []int{1, factorMax + 1, 1}},
		{[]int{2, 1}, []int{-factorMax - 1, 0, 1}},
		{[]int{1}, []int{1, polyMax}},
		// A number of the product too great.
		{[]int{factorMax}, []int{10001}},
		{[]int{-factorMax}, []int{10001}},
		{[]int{factorMax}, []int{factorMax}},
		{[]int{1, factorMax}, []int{1, 10000, 1}},
		{[]int{1, -factorMax}, []int{1, 10000, -1}},
		{repeated(factorMax, 11), repeated(factorMax, 11)},
		// One number more than both may have together.
		{[]int{1, 1}, repeated(1, 21)},
		{repeated(1, 11), repeated(1, 12)},
		{raised(1, 10), raised(1, 11)},
		{repeated(1, 21), repeated(1, 21)},
	}
	for _, c := range fails {
		got, ok := impl.PolyTimes(c.p, c.q)
		wantNoList(t, "PolyTimes", got, ok)
		got, ok = impl.PolyTimes(c.q, c.p)
		wantNoList(t, "PolyTimes, exchanged", got, ok)
	}
}

func TestPromise29(t *testing.T) {
	polys := samplePolys()
	for _, p := range polys {
		for _, q := range polys {
			got, ok := impl.PolyTimes(p, q)
			want := productOf(p, q)
			if len(p)+len(q) > degreeMax+2 || !isSmall(p) || !isSmall(q) || !isPoly(want) {
				wantNoList(t, "PolyTimes", got, ok)
				continue
			}
			wantList(t, "PolyTimes", got, ok, want...)
			back, fine := impl.PolyTimes(q, p)
			wantList(t, "PolyTimes of both exchanged", back, fine, got...)
			a, first := impl.PolyAt(p, -1)
			b, second := impl.PolyAt(q, -1)
			product, third := impl.PolyAt(got, -1)
			if first && second && third && product != a*b {
				t.Errorf("the values at -1 of %v and %v are %d and %d, that of the product is %d", p, q, a, b, product)
			}
		}
	}
}

func TestPolyDerive(t *testing.T) {
	cases := []struct{ p, want []int }{
		{nil, nil},
		{[]int{7}, nil},
		{[]int{-polyMax}, nil},
		{[]int{5, 3}, []int{3}},
		{[]int{1, 0, 0, 4}, []int{0, 0, 12}},
		{[]int{1, 2, 3, 4, 5}, []int{2, 6, 12, 20}},
		{[]int{0, 0, -1}, []int{0, -2}},
		{repeated(1, 21), []int{1, 2, 3, 4, 5, 6, 7, 8, 9, 10, 11, 12, 13, 14, 15, 16, 17, 18, 19, 20}},
		{[]int{polyMax, polyMax}, []int{polyMax}},
		{[]int{1, 2, 500000000}, []int{2, polyMax}},
		{[]int{1, 2, -500000000, 1}, []int{2, -polyMax, 3}},
		{raised(50000000, 20), raised(polyMax, 19)},
		{raised(-50000000, 20), raised(-polyMax, 19)},
	}
	for _, c := range cases {
		got, ok := impl.PolyDerive(c.p)
		wantList(t, "PolyDerive", got, ok, c.want...)
	}
	tooGreat := [][]int{{1, 2, 500000001}, {1, 2, -500000001}, {0, 0, 500000001, 1}, raised(50000001, 20), raised(-50000001, 20), raised(333333334, 3), repeated(polyMax, 3)}
	for _, p := range tooGreat {
		got, ok := impl.PolyDerive(p)
		wantNoList(t, "PolyDerive with a number too great", got, ok)
	}
}

func TestPromise30(t *testing.T) {
	for _, p := range samplePolys() {
		got, ok := impl.PolyDerive(p)
		want := derivativeOf(p)
		if !isPoly(want) {
			wantNoList(t, "PolyDerive", got, ok)
			continue
		}
		wantList(t, "PolyDerive", got, ok, want...)
		square, fine := impl.PolyTimes(p, p)
		if !fine {
			continue
		}
		left, first := impl.PolyDerive(square)
		half, second := impl.PolyTimes(p, got)
		right, third := impl.PolyTimes([]int{2}, half)
		if first && second && third {
			wantList(t, "PolyDerive of the square", left, first, right...)
		}
	}
}

func TestPolyAt(t *testing.T) {
	cases := []struct {
		p       []int
		x, want int
	}{
		{nil, 0, 0},
		{nil, 20, 0},
		{[]int{}, -20, 0},
		{[]int{7}, 0, 7},
		{[]int{7}, -20, 7},
		{[]int{0, 1}, 0, 0},
		{[]int{0, 1}, 20, 20},
		{[]int{0, 1}, -20, -20},
		{[]int{1, 2, 3}, 2, 17},
		{[]int{1, 2, 3}, -2, 9},
		{[]int{-factorMax}, 3, -factorMax},
		{raised(1, 8), 20, 25600000000},
		{raised(-1, 8), -20, -25600000000},
		{raised(1, 7), -20, -1280000000},
		{repeated(factorMax, 9), 20, 2694736842100000},
		{repeated(-factorMax, 9), 20, -2694736842100000},
		{repeated(factorMax, 9), -20, 2438095238100000},
	}
	for _, c := range cases {
		got, ok := impl.PolyAt(c.p, c.x)
		wantNumber(t, "PolyAt", got, ok, c.want)
	}
	others := [][]int{repeated(1, 10), raised(1, 9), repeated(1, 21), {factorMax + 1}, {-factorMax - 1}, {1, factorMax + 1, 1}, {1, -factorMax - 1}, append(repeated(1, 8), factorMax+1), {polyMax}, {0, -polyMax}}
	for _, p := range others {
		for _, x := range []int{0, 1, -1, 2, 20, -20} {
			got, ok := impl.PolyAt(p, x)
			wantNoNumber(t, "PolyAt of a polynomial too great", got, ok)
		}
	}
	for _, p := range [][]int{nil, {1}, {-1, 1}, raised(1, 8)} {
		for _, x := range outside(-20, 20) {
			got, ok := impl.PolyAt(p, x)
			wantNoNumber(t, "PolyAt at a number out of range", got, ok)
		}
	}
}

func TestPromise31(t *testing.T) {
	for _, p := range samplePolys() {
		if len(p) > 9 || !isSmall(p) {
			got, ok := impl.PolyAt(p, 0)
			wantNoNumber(t, "PolyAt", got, ok)
			continue
		}
		first, sum := 0, 0
		for i, number := range p {
			if i == 0 {
				first = number
			}
			sum += number
		}
		got, ok := impl.PolyAt(p, 0)
		wantNumber(t, "PolyAt at 0", got, ok, first)
		got, ok = impl.PolyAt(p, 1)
		wantNumber(t, "PolyAt at 1", got, ok, sum)
		for x := -20; x <= 20; x++ {
			got, ok := impl.PolyAt(p, x)
			wantNumber(t, "PolyAt", got, ok, valueOf(p, x))
		}
	}
}

func TestPolyMatch(t *testing.T) {
	cases := []struct {
		what string
		g    []int
		want []int
	}{
		{"one node", []int{0}, []int{0, 1}},
		{"two nodes without edges", []int{0, 0}, []int{0, 0, 1}},
		{"5 nodes without edges", make([]int, 5), raised(1, 5)},
		{"8 nodes without edges", make([]int, 8), raised(1, 8)},
		{"an edge", []int{2, 1}, []int{-1, 0, 1}},
		{"an edge and a node alone", []int{2, 1, 0}, []int{0, -1, 0, 1}},
		{"a ring of 3", []int{6, 5, 3}, []int{0, -3, 0, 1}},
		{"a way that is not straight", crooked, []int{1, 0, -3, 0, 1}},
		{"a ring of 6", ring6, []int{-2, 0, 9, 0, -6, 0, 1}},
		{"the full graph of 4", full4, []int{3, 0, -6, 0, 1}},
		{"the full graph of 7", []int{126, 125, 123, 119, 111, 95, 63}, []int{0, -105, 0, 105, 0, -21, 0, 1}},
		{"the full graph of 8", full8, []int{105, 0, -420, 0, 210, 0, -28, 0, 1}},
		{"four and four", []int{240, 240, 240, 240, 15, 15, 15, 15}, []int{24, 0, -96, 0, 72, 0, -16, 0, 1}},
		{"several parts", mixed, []int{0, 0, -6, 0, 11, 0, -6, 0, 1}},
	}
	for _, c := range cases {
		got, ok := impl.PolyMatch(c.g)
		wantList(t, "PolyMatch of "+c.what, got, ok, c.want...)
	}
}

// TestPolyNoGraph calls the functions of matching polynomials with lists that are no graphs.
func TestPolyNoGraph(t *testing.T) {
	for what, g := range badGraphs() {
		got, ok := impl.PolyMatch(g)
		wantNoList(t, "PolyMatch of "+what, got, ok)
		number, ok := impl.PolyOther(g)
		wantNoNumber(t, "PolyOther of "+what, number, ok)
	}
}

func TestPromise32(t *testing.T) {
	for _, m := range sampleGraphs() {
		g := m.list()
		got, ok := impl.PolyMatch(g)
		wantList(t, "PolyMatch", got, ok, polyOfMatchings(m)...)
		if len(g) == 1 {
			continue
		}
		sum := []int{}
		for v := range g {
			sum = polyAdd(t, sum, matchPolyOf(t, withoutNode(t, g, v)))
		}
		derived, ok := impl.PolyDerive(got)
		wantList(t, "PolyDerive of PolyMatch", derived, ok, sum...)
	}
}

func TestPromise33(t *testing.T) {
	small := smallGraphs(4)
	for _, m := range small {
		for _, k := range small {
			g, h := m.list(), k.list()
			both := must[[]int](t, "GraphBeside")(impl.GraphBeside(g, h))
			product := must[[]int](t, "PolyTimes")(impl.PolyTimes(matchPolyOf(t, g), matchPolyOf(t, h)))
			got, ok := impl.PolyMatch(both)
			wantList(t, "PolyMatch of two graphs beside each other", got, ok, product...)
		}
	}
}

func TestPromise34(t *testing.T) {
	for _, m := range sampleGraphs() {
		if len(m) <= 2 {
			continue
		}
		g := m.list()
		got := matchPolyOf(t, g)
		for _, e := range m.pairs(true) {
			cut := must[[]int](t, "GraphCut")(impl.GraphCut(g, e[0], e[1]))
			rest := matchPolyOf(t, withoutNode(t, withoutNode(t, g, e[1]), e[0]))
			// The graph's polynomial and that of the rest are together that without the edge.
			sum, ok := impl.PolyAdd(got, rest)
			wantList(t, "PolyMatch by an edge", sum, ok, matchPolyOf(t, cut)...)
		}
	}
}

func TestPolyOther(t *testing.T) {
	cases := []struct {
		what string
		g    []int
		want int
	}{
		{"one node", []int{0}, 0},
		{"two nodes without edges", []int{0, 0}, 1},
		{"3 nodes without edges", make([]int, 3), 0},
		{"4 nodes without edges", make([]int, 4), 3},
		{"6 nodes without edges", make([]int, 6), 15},
		{"7 nodes without edges", make([]int, 7), 0},
		{"8 nodes without edges", make([]int, 8), 105},
		{"an edge", []int{2, 1}, 0},
		{"an edge and two nodes alone", []int{2, 1, 0, 0}, 2},
		{"a ring of 4", []int{10, 5, 10, 5}, 1},
		{"a ring of 6", ring6, 4},
		{"a ring of 5", []int{18, 5, 10, 20, 9}, 0},
		{"the full graph of 4", full4, 0},
		{"the full graph of 8", full8, 0},
		{"four and four", []int{240, 240, 240, 240, 15, 15, 15, 15}, 9},
		{"several parts", mixed, 42},
	}
	for _, c := range cases {
		got, ok := impl.PolyOther(c.g)
		wantNumber(t, "PolyOther of "+c.what, got, ok, c.want)
	}
}

func TestPromise35(t *testing.T) {
	for _, m := range sampleGraphs() {
		g := m.list()
		others := bareMatrix(len(m))
		for _, e := range m.pairs(false) {
			others.link(e[0], e[1])
		}
		got, ok := impl.PolyOther(g)
		wantNumber(t, "PolyOther", got, ok, len(perfectOf(others.matchings(), len(m))))
		perfect := must[[][][]int](t, "MatchPerfect")(impl.MatchPerfect(otherOf(t, g)))
		wantNumber(t, "PolyOther by MatchPerfect", got, ok, len(perfect))
	}
}

// TestPolySeries looks at the first and the last ones of each series, and at numbers for which there is none.
func TestPolySeries(t *testing.T) {
	cases := []struct {
		what string
		call func(int) ([]int, bool)
		n    int
		want []int
	}{
		{"PolyHermite", impl.PolyHermite, 0, []int{1}},
		{"PolyHermite", impl.PolyHermite, 1, []int{0, 1}},
		{"PolyHermite", impl.PolyHermite, 2, []int{-1, 0, 1}},
		{"PolyHermite", impl.PolyHermite, 3, []int{0, -3, 0, 1}},
		{"PolyHermite", impl.PolyHermite, 4, []int{3, 0, -6, 0, 1}},
		{"PolyHermite", impl.PolyHermite, 12, []int{10395, 0, -62370, 0, 51975, 0, -13860, 0, 1485, 0, -66, 0, 1}},
		{"PolyWay", impl.PolyWay, 0, []int{1}},
		{"PolyWay", impl.PolyWay, 1, []int{0, 1}},
		{"PolyWay", impl.PolyWay, 2, []int{-1, 0, 1}},
		{"PolyWay", impl.PolyWay, 3, []int{0, -2, 0, 1}},
		{"PolyWay", impl.PolyWay, 4, []int{1, 0, -3, 0, 1}},
		{"PolyWay", impl.PolyWay, 12, []int{1, 0, -21, 0, 70, 0, -84, 0, 45, 0, -11, 0, 1}},
		{"PolyRing", impl.PolyRing, 3, []int{0, -3, 0, 1}},
		{"PolyRing", impl.PolyRing, 4, []int{2, 0, -4, 0, 1}},
		{"PolyRing", impl.PolyRing, 12, []int{2, 0, -36, 0, 105, 0, -112, 0, 54, 0, -12, 0, 1}},
	}
	for _, c := range cases {
		got, ok := c.call(c.n)
		wantList(t, c.what, got, ok, c.want...)
	}
	for _, n := range outside(0, 12) {
		got, ok := impl.PolyHermite(n)
		wantNoList(t, "PolyHermite of a number out of range", got, ok)
		got, ok = impl.PolyWay(n)
		wantNoList(t, "PolyWay of a number out of range", got, ok)
	}
	for _, n := range append(outside(3, 12), 0, -1) {
		got, ok := impl.PolyRing(n)
		wantNoList(t, "PolyRing of a number out of range", got, ok)
	}
}

func TestPromise36(t *testing.T) {
	for n := 0; n <= 12; n++ {
		got, ok := impl.PolyHermite(n)
		wantList(t, "PolyHermite", got, ok, inTurn(n, fullNumbers(n))...)
		if n == 0 {
			continue
		}
		if n <= 8 {
			full := must[[]int](t, "GraphFull")(impl.GraphFull(n))
			wantList(t, "PolyHermite", got, ok, matchPolyOf(t, full)...)
		}
		ahead := must[[]int](t, "PolyHermite")(impl.PolyHermite(n - 1))
		derived, ok := impl.PolyDerive(got)
		wantList(t, "PolyDerive of PolyHermite", derived, ok, productOf([]int{n}, ahead)...)
	}
}

func TestPromise37(t *testing.T) {
	for n := 0; n <= 12; n++ {
		got, ok := impl.PolyWay(n)
		wantList(t, "PolyWay", got, ok, inTurn(n, wayNumbers(n))...)
		if n >= 1 && n <= 8 {
			way := must[[]int](t, "GraphWay")(impl.GraphWay(n))
			wantList(t, "PolyWay", got, ok, matchPolyOf(t, way)...)
		}
	}
}

func TestPromise38(t *testing.T) {
	for n := 3; n <= 12; n++ {
		got, ok := impl.PolyRing(n)
		wantList(t, "PolyRing", got, ok, inTurn(n, ringNumbers(n))...)
		if n <= 8 {
			ring := must[[]int](t, "GraphRing")(impl.GraphRing(n))
			wantList(t, "PolyRing", got, ok, matchPolyOf(t, ring)...)
		}
	}
}

func TestPolyRook(t *testing.T) {
	cases := []struct {
		what       string
		rows, want []int
	}{
		{"one empty row", []int{0}, []int{1}},
		{"six empty rows", make([]int, 6), []int{1}},
		{"one square", []int{1}, []int{1, 1}},
		{"the last square", []int{0, 0, 0, 0, 0, 32}, []int{1, 1}},
		{"one full row", []int{63}, []int{1, 6}},
		{"one full column", repeated(32, 6), []int{1, 6}},
		{"two and two", []int{3, 3}, []int{1, 4, 2}},
		{"a row that has a column of the other one", []int{1, 3}, []int{1, 3, 1}},
		{"an empty row between", []int{3, 0, 3}, []int{1, 4, 2}},
		{"the squares of a way down", []int{1, 2, 4, 8, 16, 32}, []int{1, 6, 15, 20, 15, 6, 1}},
		{"two full rows", []int{63, 63}, []int{1, 12, 30}},
		{"two full columns", repeated(33, 6), []int{1, 12, 30}},
		{"stairs", []int{1, 3, 7}, []int{1, 6, 7, 1}},
		{"five full rows", repeated(63, 5), []int{1, 30, 300, 1200, 1800, 720}},
		{"all squares", repeated(63, 6), []int{1, 36, 450, 2400, 5400, 4320, 720}},
	}
	for _, c := range cases {
		got, ok := impl.PolyRook(c.rows)
		wantList(t, "PolyRook of "+c.what, got, ok, c.want...)
	}
	for what, rows := range badBoards() {
		got, ok := impl.PolyRook(rows)
		wantNoList(t, "PolyRook of "+what, got, ok)
	}
}

// TestPolyRookOfMany holds PolyRook against all matchings of rows and columns, for boards of one to six rows.
func TestPolyRookOfMany(t *testing.T) {
	next := uint64(3)
	word := func() int {
		next = next*6364136223846793005 + 1442695040888963407
		return int(next>>33) & 63
	}
	for i := range 240 {
		rows := make([]int, i%6+1)
		for row := range rows {
			rows[row] = word() & word()
		}
		got, ok := impl.PolyRook(rows)
		wantList(t, "PolyRook", got, ok, rooksOf(rows)...)
	}
}

// rookGraph returns the graph of the rows, from 0 on, and of the columns, from 3 on, of a board.
func rookGraph(t *testing.T, rows []int) []int {
	t.Helper()
	edges := [][]int{}
	for row, set := range rows {
		for column := range 5 {
			if set>>column&1 == 1 {
				edges = append(edges, []int{row, 3 + column})
			}
		}
	}
	return must[[]int](t, "GraphOf")(impl.GraphOf(8, edges))
}

// TestPromise39 takes all boards with one or two rows, and some with three.
func TestPromise39(t *testing.T) {
	boards := [][]int{}
	for a := range 32 {
		boards = append(boards, []int{a})
		for b := range 32 {
			boards = append(boards, []int{a, b})
			for c := (a + b) % 5; c < 32; c += 5 {
				boards = append(boards, []int{a, b, c})
			}
		}
	}
	for _, rows := range boards {
		numbers := must[[]int](t, "MatchNumbers")(impl.MatchNumbers(rookGraph(t, rows)))
		got, ok := impl.PolyRook(rows)
		wantList(t, "PolyRook", got, ok, numbers...)
	}
}
