package tests

import (
	"runtime"
	"sync"
	"testing"
	"testing/synctest"

	"loop.example/matchpolys/impl"
)

// covers is all that the functions of covers tell of a graph and a set.
type covers struct {
	numbers [14]int
	oks     [10]bool
}

func coversOf(g []int, s int) covers {
	var c covers
	n, ok := &c.numbers, &c.oks
	ok[0] = impl.CoverIn(g, s)
	n[0], ok[1] = impl.CoverLeast(g)
	n[1], ok[2] = impl.CoverFree(g)
	n[2], ok[3] = impl.CoverEdges(g)
	n[3], ok[4] = impl.CoverLoss(g, s)
	n[4], n[5], ok[5] = impl.CoverTutte(g)
	n[6], n[7], n[8], ok[6] = impl.CoverThree(g)
	ok[7] = impl.CoverCritical(g)
	n[9], n[10], ok[8] = impl.CoverHall(g)
	ok[9] = impl.CoverKonig(g)
	return c
}

// coverArguments are graphs, and lists that are none.
func coverArguments() [][]int {
	lists := [][]int{{2, 0}, {-1}, make([]int, 9)}
	for _, c := range coverCases() {
		lists = append(lists, c.g)
	}
	return lists
}

// TestCoverStays looks at the graphs that the functions of covers are called with, and at the room behind them.
func TestCoverStays(t *testing.T) {
	for _, list := range coverArguments() {
		for _, s := range []int{0, 1, 1<<len(list) - 1, -1, 256} {
			g, unchanged := spread(t, "a graph", list)
			coversOf(g, s)
			unchanged()
		}
	}
}

// wantSameCovers calls all functions again, and wants what they told at first.
func wantSameCovers(t *testing.T, lists [][]int, want []covers) {
	t.Helper()
	for i, g := range lists {
		if got := coversOf(g, 3); got != want[i] {
			t.Errorf("what the functions of covers tell of %v became %v, at first it was %v", g, got, want[i])
		}
	}
}

func firstCovers(lists [][]int) []covers {
	var first []covers
	for _, g := range lists {
		first = append(first, coversOf(g, 3))
	}
	return first
}

// TestCoverIsTheSameAgain makes many runs of the same inputs, with one goroutine at a time and with several ones.
func TestCoverIsTheSameAgain(t *testing.T) {
	lists := coverArguments()
	want := firstCovers(lists)
	defer runtime.GOMAXPROCS(runtime.GOMAXPROCS(0))
	for _, processors := range []int{1, 2, 3, 8} {
		runtime.GOMAXPROCS(processors)
		for range 50 {
			wantSameCovers(t, lists, want)
		}
	}
}

// TestCoverAtOnce calls the functions from several goroutines with the same graphs.
func TestCoverAtOnce(t *testing.T) {
	lists := coverArguments()
	want := firstCovers(lists)
	var callers sync.WaitGroup
	for range 8 {
		callers.Go(func() {
			for range 10 {
				wantSameCovers(t, lists, want)
			}
		})
	}
	callers.Wait()
}

// TestCoverLeavesNoGoroutine fails if a goroutine is left that waits for good.
func TestCoverLeavesNoGoroutine(t *testing.T) {
	for _, g := range coverArguments() {
		synctest.Test(t, func(t *testing.T) { coversOf(g, 3) })
	}
}
