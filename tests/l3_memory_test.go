package tests

import (
	"slices"
	"testing"

	"loop.example/matchpolys/impl"
)

// polyCalls are the functions of polynomials that return a list, each with one list as what it is called with.
func polyCalls() map[string]func(p []int) ([]int, bool) {
	return map[string]func(p []int) ([]int, bool){
		"PolyAdd with 0, first":     func(p []int) ([]int, bool) { return impl.PolyAdd(p, nil) },
		"PolyAdd with 0, second":    func(p []int) ([]int, bool) { return impl.PolyAdd([]int{}, p) },
		"PolyAdd with -x, first":    func(p []int) ([]int, bool) { return impl.PolyAdd(p, []int{0, -1}) },
		"PolyAdd with -x, second":   func(p []int) ([]int, bool) { return impl.PolyAdd([]int{0, -1}, p) },
		"PolyAdd of the same list":  func(p []int) ([]int, bool) { return impl.PolyAdd(p, p) },
		"PolyTimes with 1, first":   func(p []int) ([]int, bool) { return impl.PolyTimes(p, []int{1}) },
		"PolyTimes with 1, second":  func(p []int) ([]int, bool) { return impl.PolyTimes([]int{1}, p) },
		"PolyTimes with x, first":   func(p []int) ([]int, bool) { return impl.PolyTimes(p, []int{0, 1}) },
		"PolyTimes with 0, first":   func(p []int) ([]int, bool) { return impl.PolyTimes(p, nil) },
		"PolyTimes of the same one": func(p []int) ([]int, bool) { return impl.PolyTimes(p, p) },
		"PolyDerive":                impl.PolyDerive,
		"PolyMatch":                 impl.PolyMatch,
		"PolyRook":                  impl.PolyRook,
	}
}

// polyArguments are polynomials, graphs and boards, and lists that are none of these.
func polyArguments() [][]int {
	lists := append(matchGraphs(), []int{}, []int{1}, []int{0, 1}, []int{3, 1, 4, 1, 5}, []int{7, 7, 7}, repeated(63, 6), repeated(2, 11), repeated(1, 21), []int{polyMax, 1}, repeated(polyMax, 3))
	return append(lists, []int{0, 0}, []int{1, 0}, []int{polyMax + 1}, repeated(1, 22))
}

// TestPolysAreNew spoils each result, with all the room that it has, and looks at the argument and at the next result.
func TestPolysAreNew(t *testing.T) {
	for what, call := range polyCalls() {
		for _, list := range polyArguments() {
			p, unchanged := spread(t, what, list)
			first, ok := call(p)
			unchanged()
			want := slices.Clone(first)
			spoil(first)
			unchanged()
			if second, fine := call(p); fine != ok || !slices.Equal(second, want) {
				t.Errorf("%s: %v became %v, %v, and then %v, %v", what, list, want, ok, second, fine)
			}
		}
	}
}

// TestPolysOfTwoAreNew calls the functions of two polynomials with two lists that have room behind them.
func TestPolysOfTwoAreNew(t *testing.T) {
	calls := map[string]func(p, q []int) ([]int, bool){"PolyAdd": impl.PolyAdd, "PolyTimes": impl.PolyTimes}
	for what, call := range calls {
		for _, first := range polyArguments() {
			for _, second := range polyArguments() {
				p, sameFirst := spread(t, what+", first", first)
				q, sameSecond := spread(t, what+", second", second)
				got, ok := call(p, q)
				want := slices.Clone(got)
				spoil(got)
				sameFirst()
				sameSecond()
				if again, fine := call(p, q); fine != ok || !slices.Equal(again, want) {
					t.Errorf("%s(%v, %v) returned %v, and then %v", what, first, second, want, again)
				}
			}
		}
	}
}

func TestPolysOfNumbersAreNew(t *testing.T) {
	calls := map[string]func(int) ([]int, bool){"PolyHermite": impl.PolyHermite, "PolyWay": impl.PolyWay, "PolyRing": impl.PolyRing}
	for what, call := range calls {
		for n := 0; n <= 12; n++ {
			first, ok := call(n)
			want := slices.Clone(first)
			spoil(first)
			if second, fine := call(n); fine != ok || !slices.Equal(second, want) {
				t.Errorf("%s(%d) returned %v, and then %v", what, n, want, second)
			}
		}
	}
}

// TestPolysStay looks at the arguments of the functions that return no list.
func TestPolysStay(t *testing.T) {
	for _, list := range polyArguments() {
		p, unchanged := spread(t, "a polynomial", list)
		impl.PolyIn(p)
		impl.PolyAt(p, 2)
		impl.PolyAt(p, 21)
		impl.PolyOther(p)
		unchanged()
	}
}
