package tests

import (
	"slices"
	"testing"

	"loop.example/matchpolys/impl"
)

// matchGraphs are graphs, one of them without edges, and lists that are none.
func matchGraphs() [][]int {
	return append(memoryGraphs(), make([]int, 4), ring6, crooked, mixed)
}

// matchArguments are matchings and lists that are none, with edges that are not in order among them.
func matchArguments() [][][]int {
	return [][][]int{nil, {}, {{0, 1}}, {{0, 1}, {2, 3}}, {{2, 3}, {0, 1}}, {{1, 0}, {3, 2}}, {{0, 2}, {1, 3}}, {{0, 1, 2}}, {{}, {0, 1}}, {{0, 1}, {1, 2}}}
}

// TestMatchNumbersAreNew spoils each result and looks at the argument and at the next result.
func TestMatchNumbersAreNew(t *testing.T) {
	for _, list := range matchGraphs() {
		g, unchanged := spread(t, "MatchNumbers", list)
		first, ok := impl.MatchNumbers(g)
		unchanged()
		want := slices.Clone(first)
		spoil(first)
		unchanged()
		if second, fine := impl.MatchNumbers(g); fine != ok || !slices.Equal(second, want) {
			t.Errorf("MatchNumbers(%v) returned %v, and then %v", list, want, second)
		}
	}
}

// listsAreNew spoils the lists of a result one by one, in both directions: none of the others may change, nor the next result.
func listsAreNew(t *testing.T, what string, unchanged func(), call func() ([][]int, bool)) {
	t.Helper()
	result, ok := call()
	unchanged()
	want := cloneLists(result)
	for i := range result {
		spoil(result[i])
		unchanged()
		if !sameLists(result[i+1:], want[i+1:]) {
			t.Errorf("%s: to change the list %d made %v of %v", what, i, result[i+1:], want[i+1:])
		}
	}
	spoilLists(result)
	unchanged()
	again, fine := call()
	if fine != ok || !sameLists(again, want) {
		t.Errorf("%s returned %v, and then %v", what, want, again)
	}
	for i := len(again) - 1; i >= 0; i-- {
		spoil(again[i])
		if !sameLists(again[:i], want[:i]) {
			t.Errorf("%s: to change the list %d made %v of %v", what, i, again[:i], want[:i])
		}
	}
}

func TestMatchingsAreNew(t *testing.T) {
	calls := map[string]func([]int) ([][]int, bool){"MatchFirst": impl.MatchFirst, "MatchAllowed": impl.MatchAllowed}
	for what, call := range calls {
		for _, list := range matchGraphs() {
			g, unchanged := spread(t, what, list)
			listsAreNew(t, what, unchanged, func() ([][]int, bool) { return call(g) })
		}
	}
}

func TestMatchLongerIsNew(t *testing.T) {
	for _, list := range matchGraphs() {
		for _, edges := range matchArguments() {
			g, sameGraph := spread(t, "MatchLonger", list)
			m, sameMatching := spreadLists(t, "MatchLonger", edges)
			unchanged := func() {
				t.Helper()
				sameGraph()
				sameMatching()
			}
			listsAreNew(t, "MatchLonger", unchanged, func() ([][]int, bool) { return impl.MatchLonger(g, m) })
		}
	}
}

// TestMatchPerfectIsNew spoils the matchings of a result one by one, with all their room, in both directions.
func TestMatchPerfectIsNew(t *testing.T) {
	for _, list := range matchGraphs() {
		g, unchanged := spread(t, "MatchPerfect", list)
		first, ok := impl.MatchPerfect(g)
		unchanged()
		want := cloneMatchings(first)
		for i := range first {
			spoilLists(first[i])
			unchanged()
			if !sameMatchings(first[i+1:], want[i+1:]) {
				t.Errorf("MatchPerfect(%v): to change the matching %d made %v of %v", list, i, first[i+1:], want[i+1:])
			}
		}
		second, fine := impl.MatchPerfect(g)
		if fine != ok || !sameMatchings(second, want) {
			t.Errorf("MatchPerfect(%v) returned %v, and then %v", list, want, second)
		}
		for i := len(second) - 1; i >= 0; i-- {
			for j := len(second[i]) - 1; j >= 0; j-- {
				spoil(second[i][j])
				if !sameLists(second[i][:j], want[i][:j]) || !sameMatchings(second[:i], want[:i]) {
					t.Errorf("MatchPerfect(%v): to change the edge %d of the matching %d changed another one", list, j, i)
				}
			}
		}
	}
}

// TestMatchingsStay looks at the arguments of the functions that return no list.
func TestMatchingsStay(t *testing.T) {
	for _, list := range matchGraphs() {
		for _, edges := range matchArguments() {
			g, sameGraph := spread(t, "a graph", list)
			m, sameFirst := spreadLists(t, "a matching", edges)
			k, sameSecond := spreadLists(t, "a second matching", [][]int{{0, 1}})
			impl.MatchIn(g, m)
			impl.MatchMissed(g, m)
			impl.MatchFull(g, m)
			impl.MatchExchange(g, m, k)
			impl.MatchExchange(g, k, m)
			impl.MatchExchange(g, m, m)
			impl.MatchGreatest(g)
			impl.MatchAll(g)
			sameGraph()
			sameFirst()
			sameSecond()
		}
	}
}
