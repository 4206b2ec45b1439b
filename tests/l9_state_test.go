package tests

import (
	"slices"
	"sync"
	"testing"
	"testing/synctest"

	"loop.example/matchpolys/impl"
)

// stateScripts return scripts that change the graph, refuse lines, are too long or end within a line.
func stateScripts() []string {
	scripts := sampleScripts(maxScript)
	for _, text := range slices.Clone(scripts) {
		scripts = append(scripts, text+"full 8")
	}
	return append(scripts, "full 8\n", "ring x\n", "zzz\n", "full 8\nzzz\n", string(make([]byte, maxScript+1)))
}

// TestCommandKeepsNothing executes many scripts, ahead and back again, with the empty one behind each.
func TestCommandKeepsNothing(t *testing.T) {
	scripts := stateScripts()
	var first []string
	for _, text := range scripts {
		first = append(first, impl.Execute(text))
		wantOutput(t, "", "edges 0\n")
		wantOutput(t, "edges\ndegrees\n", "-\n0 0 0 0\nedges 0\n")
	}
	for i, text := range slices.Backward(scripts) {
		wantOutput(t, text, first[i])
	}
}

// TestCommandAtOnce executes the same scripts in several goroutines.
func TestCommandAtOnce(t *testing.T) {
	scripts := stateScripts()
	var first []string
	for _, text := range scripts {
		first = append(first, impl.Execute(text))
	}
	var callers sync.WaitGroup
	for range 8 {
		callers.Go(func() {
			for i, text := range scripts {
				wantOutput(t, text, first[i])
			}
		})
	}
	callers.Wait()
}

// TestCommandLeavesNoGoroutine fails if a goroutine is left that waits for good.
func TestCommandLeavesNoGoroutine(t *testing.T) {
	for _, text := range stateScripts() {
		synctest.Test(t, func(t *testing.T) { impl.Execute(text) })
	}
}
