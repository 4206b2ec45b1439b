package tests

import (
	"testing"

	"loop.example/matchpolys/impl"
)

// tableGraphs are graphs that a table has room for, and lists of which no table can be made.
func tableGraphs() [][]int {
	return append(matchGraphs(), []int{0}, []int{62, 61, 59, 55, 47, 31}, []int{6, 5, 3, 0})
}

// turnedArguments are lists of turned edges, in order and not, and lists that are none for most graphs.
func turnedArguments() [][][]int {
	return [][][]int{nil, {}, {{0, 1}}, {{0, 1}, {0, 2}}, {{1, 2}, {0, 1}}, {{2, 3}, {1, 2}, {0, 1}}, {{1, 0}}, {{0, 1}, {0, 1}}, {{0, 1, 2}}, {{}, {0, 1}}}
}

func TestTableGraphsAreNew(t *testing.T) {
	for _, list := range tableGraphs() {
		g, unchanged := spread(t, "TableGraph", list)
		listsAreNew(t, "TableGraph", unchanged, func() ([][]int, bool) { return impl.TableGraph(g) })
	}
}

func TestTablePointsAreNew(t *testing.T) {
	for _, list := range tableGraphs() {
		for _, edges := range turnedArguments() {
			g, sameGraph := spread(t, "TablePoint", list)
			turned, sameTurned := spreadLists(t, "TablePoint", edges)
			unchanged := func() {
				t.Helper()
				sameGraph()
				sameTurned()
			}
			listsAreNew(t, "TablePoint", unchanged, func() ([][]int, bool) { return impl.TablePoint(g, turned) })
			impl.TableFits(g, turned)
			unchanged()
		}
	}
}

// TestTablesStay looks at the arguments of the functions that return no table.
func TestTablesStay(t *testing.T) {
	tables := sampleTables()
	for _, table := range badTables() {
		tables = append(tables, table)
	}
	for _, lists := range tables {
		table, unchanged := spreadLists(t, "a table", lists)
		for _, call := range tableReports() {
			call(table)
		}
		for _, call := range tableNumbers() {
			call(table)
		}
		unchanged()
	}
}

// tableAnswers are all that is told of a table, with -1 for what fails.
func tableAnswers(table [][]int) map[string]int {
	answers := map[string]int{}
	for name, call := range tableReports() {
		if call(table) {
			answers[name] = 1
		}
	}
	for name, call := range tableNumbers() {
		number, ok := call(table)
		answers[name] = number
		if !ok {
			answers[name+" fails"] = 1
		}
	}
	return answers
}

// TestTablesKeepNothing asks the same of many tables, ahead and back again, with tables of other sizes and lists that are none between.
func TestTablesKeepNothing(t *testing.T) {
	tables := sampleTables()
	for _, table := range badTables() {
		tables = append(tables, table)
	}
	first := make([]map[string]int, len(tables))
	for i, table := range tables {
		first[i] = tableAnswers(table)
	}
	for i := len(tables) - 1; i >= 0; i-- {
		for name, number := range tableAnswers(tables[i]) {
			if number != first[i][name] {
				t.Errorf("%s of %v told %d, and then %d", name, tables[i], first[i][name], number)
			}
		}
	}
}

// TestPointingsKeepNothing asks the same of many graphs and turned edges, ahead and back again.
func TestPointingsKeepNothing(t *testing.T) {
	all := pointings()
	fits := make([]bool, len(all))
	for i, p := range all {
		fits[i] = impl.TableFits(p.m.list(), p.turned)
	}
	for i := len(all) - 1; i >= 0; i-- {
		g := all[i].m.list()
		if got := impl.TableFits(g, all[i].turned); got != fits[i] {
			t.Errorf("TableFits(%v, %v) is %v, and then %v", g, all[i].turned, fits[i], got)
		}
		got, ok := impl.TablePoint(g, all[i].turned)
		if want := all[i].table(); !ok || !sameLists(got, want) {
			t.Errorf("TablePoint(%v, %v) returned %v, %v, want %v", g, all[i].turned, got, ok, want)
		}
	}
}
