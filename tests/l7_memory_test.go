package tests

import (
	"fmt"
	"slices"
	"testing"

	"loop.example/matchpolys/impl"
)

// forceQuestion is what may be asked of forced edges: a graph, a matching and a set, or lists that are none.
type forceQuestion struct {
	g    []int
	m, s [][]int
}

// forceQuestions have the first and the last perfect matching of each graph told by hand, with some of their edges, all and such that are none, and what fails.
func forceQuestions() []forceQuestion {
	questions := []forceQuestion{{nil, nil, nil}, {[]int{1}, [][]int{{0, 1}}, nil}, {[]int{2, 0}, [][]int{{0, 1}}, [][]int{{0, 1}}}}
	for _, f := range forcedGraphs() {
		all := forcedSampleOf(matrixOfList(f.g)).perfect
		for _, m := range slices.Concat(all[:min(1, len(all))], all[max(0, len(all)-1):], [][][]int{nil, {{0, 1}}, {{2, 3}, {0, 1}}, {{1, 0}, {2, 3}}}) {
			for _, s := range [][][]int{nil, m, m[:min(1, len(m))], m[len(m)/2:], slices.Repeat(m, 2), {{2, 3}, {0, 1}}, {{0, 1, 2}, {}}} {
				questions = append(questions, forceQuestion{f.g, m, s})
			}
		}
	}
	return questions
}

// spread returns the question with room behind each list, and a check that nothing of it has changed.
func (q forceQuestion) spread(t *testing.T, what string) (forceQuestion, func()) {
	t.Helper()
	g, sameGraph := spread(t, what+", graph", q.g)
	m, sameMatching := spreadLists(t, what+", matching", q.m)
	s, sameSet := spreadLists(t, what+", set", q.s)
	return forceQuestion{g, m, s}, func() {
		t.Helper()
		sameGraph()
		sameMatching()
		sameSet()
	}
}

// answers are all that is told of the question.
func (q forceQuestion) answers() string {
	force, forceOK := impl.ForceOf(q.g, q.m)
	set, setOK := impl.ForceSet(q.g, q.m)
	near, nearOK := impl.ForceNear(q.g, q.m)
	steps, stepsOK := impl.ForceSteps(q.g)
	blocks, blocksOK := impl.ForceBlocks(q.g)
	spectrum, spectrumOK := impl.ForceSpectrum(q.g)
	return fmt.Sprint(force, forceOK, set, setOK, near, nearOK, impl.ForceHolds(q.g, q.m, q.s)) +
		fmt.Sprint(steps, stepsOK, blocks, blocksOK, impl.ForceElementary(q.g), spectrum, spectrumOK)
}

func TestForceSetsAreNew(t *testing.T) {
	for _, told := range forceQuestions() {
		q, unchanged := told.spread(t, "ForceSet")
		listsAreNew(t, "ForceSet", unchanged, func() ([][]int, bool) { return impl.ForceSet(q.g, q.m) })
	}
}

func TestForceListsAreNew(t *testing.T) {
	calls := map[string]func(q forceQuestion) ([]int, bool){
		"ForceNear":     func(q forceQuestion) ([]int, bool) { return impl.ForceNear(q.g, q.m) },
		"ForceBlocks":   func(q forceQuestion) ([]int, bool) { return impl.ForceBlocks(q.g) },
		"ForceSpectrum": func(q forceQuestion) ([]int, bool) { return impl.ForceSpectrum(q.g) },
	}
	for what, call := range calls {
		for _, told := range forceQuestions() {
			q, unchanged := told.spread(t, what)
			listIsNew(t, what, unchanged, func() ([]int, bool) { return call(q) })
		}
	}
}

// TestForceSetsOfPerfect tells the rows of MatchPerfect as matchings, and results as sets: to spoil one leaves the others.
func TestForceSetsOfPerfect(t *testing.T) {
	for _, f := range forcedGraphs() {
		perfect := must[[][][]int](t, "MatchPerfect")(impl.MatchPerfect(f.g))
		want := cloneMatchings(perfect)
		var sets [][][]int
		for _, m := range perfect {
			set := forceSet(t, f.g, m)
			if !impl.ForceHolds(f.g, m, set) || !impl.ForceHolds(f.g, m, m) {
				t.Errorf("ForceHolds(%v, %v, %v) does not hold, or not for all edges", f.g, m, set)
			}
			sets = append(sets, set)
		}
		wantSets := cloneMatchings(sets)
		for i, set := range sets {
			spoilLists(set)
			if !sameMatchings(perfect, want) || !sameMatchings(sets[i+1:], wantSets[i+1:]) {
				t.Fatalf("ForceSet of %v: to change the set %d changed a matching, or another set", f.g, i)
			}
		}
	}
}

// TestForceSetsHaveEdgesOfTheirOwn looks at the room behind the sets, too: no edge stands in it again.
func TestForceSetsHaveEdgesOfTheirOwn(t *testing.T) {
	for _, f := range forcedGraphs() {
		for _, m := range forcedSampleOf(matrixOfList(f.g)).perfect {
			set := forceSet(t, f.g, m)
			seen := map[*int]bool{}
			for _, e := range set[:cap(set)] {
				if len(e) == 0 {
					continue
				}
				if seen[&e[0]] {
					t.Errorf("ForceSet(%v, %v): the edge %v stands twice in %v", f.g, m, e, set[:cap(set)])
				}
				seen[&e[0]] = true
			}
		}
	}
}

// TestForceSetsOfTheMatching tells as the set the memory of the matching itself, all of it and a part.
func TestForceSetsOfTheMatching(t *testing.T) {
	for _, told := range forceQuestions() {
		q, unchanged := told.spread(t, "ForceHolds")
		for from := range len(q.m) + 1 {
			want := impl.ForceHolds(q.g, q.m, cloneLists(q.m[from:]))
			if got := impl.ForceHolds(q.g, q.m, q.m[from:]); got != want {
				t.Errorf("ForceHolds(%v, %v, %v) is %v, and %v for a copy of the set", q.g, q.m, q.m[from:], got, want)
			}
			unchanged()
		}
	}
}

// TestForceStays looks at the arguments of all functions, of those that return no list, too.
func TestForceStays(t *testing.T) {
	questions := forceQuestions()
	for _, m := range badPerfect() {
		questions = append(questions, forceQuestion{ring6, m, [][]int{{0, 1}}})
	}
	for _, s := range badForcing() {
		questions = append(questions, forceQuestion{ring6, [][]int{{0, 1}, {2, 3}, {4, 5}}, s})
	}
	for _, told := range questions {
		q, unchanged := told.spread(t, "a question")
		q.answers()
		unchanged()
	}
}

// TestForceKeepsNothing asks the same of many graphs, ahead and back again, with such that are none between.
func TestForceKeepsNothing(t *testing.T) {
	questions := forceQuestions()
	var first []string
	for _, q := range questions {
		first = append(first, q.answers())
	}
	for i, q := range slices.Backward(questions) {
		if got := q.answers(); got != first[i] {
			t.Errorf("of %v, %v and %v was told %s, and then %s", q.g, q.m, q.s, first[i], got)
		}
	}
}
