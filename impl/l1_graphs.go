package impl

import (
	"iter"
	"math/bits"
)

// NodesMax is the greatest number of nodes of a graph.
const NodesMax = 8

// nodeSet is a set of nodes: the node i is in it if the bit with the value 2 to the power of i is 1.
type nodeSet int

// nodesBelow returns the set of all nodes less than n.
func nodesBelow(n int) nodeSet {
	return 1<<n - 1
}

func (s nodeSet) has(v int) bool {
	return s&(1<<v) != 0
}

func (s nodeSet) with(v int) nodeSet {
	return s | 1<<v
}

func (s nodeSet) without(v int) nodeSet {
	return s &^ (1 << v)
}

// lowest returns the least node of a set that is not empty.
func (s nodeSet) lowest() int {
	return bits.TrailingZeros(uint(s))
}

// closedUp returns the set without the node v, all greater nodes called 1 less.
func (s nodeSet) closedUp(v int) nodeSet {
	return s&nodesBelow(v) | s>>(v+1)<<v
}

// all gives out the nodes of the set, in ascending order.
func (s nodeSet) all() iter.Seq[int] {
	return func(yield func(int) bool) {
		for rest := uint(s); rest != 0; rest &= rest - 1 {
			if !yield(bits.TrailingZeros(rest)) {
				return
			}
		}
	}
}

// graph is a graph as a value: to assign it copies it, so that no two graphs share memory.
type graph struct {
	count int
	near  [NodesMax]nodeSet
}

// bareGraph returns the graph of n nodes without edges; it fails if n is not from 1 to NodesMax.
func bareGraph(n int) (graph, bool) {
	if n < 1 || n > NodesMax {
		return graph{}, false
	}
	return graph{count: n}, true
}

// graphFrom reads a graph from a list of sets; it fails if the list is none.
func graphFrom(list []int) (graph, bool) {
	g, ok := bareGraph(len(list))
	if !ok {
		return graph{}, false
	}
	for v, number := range list {
		s := nodeSet(number)
		// A negative number is found here, too: its highest bit stands for no node.
		if s&^g.nodes() != 0 || s.has(v) {
			return graph{}, false
		}
		g.near[v] = s
	}
	if !g.mutual() {
		return graph{}, false
	}
	return g, true
}

// list tells the graph as a new list of sets.
func (g graph) list() []int {
	list := make([]int, g.count)
	for v := range list {
		list[v] = int(g.near[v])
	}
	return list
}

func (g graph) nodes() nodeSet {
	return nodesBelow(g.count)
}

func (g graph) hasNode(v int) bool {
	return v >= 0 && v < g.count
}

// neighbours gives out the neighbours of a node, in ascending order.
func (g graph) neighbours(v int) iter.Seq[int] {
	return g.near[v].all()
}

// mutual reports whether each node is a neighbour of all its neighbours.
func (g graph) mutual() bool {
	for v := range g.count {
		for w := range g.neighbours(v) {
			if !g.near[w].has(v) {
				return false
			}
		}
	}
	return true
}

// areNeighbours reports whether two numbers are nodes and neighbours.
func (g graph) areNeighbours(a, b int) bool {
	return g.hasNode(a) && g.hasNode(b) && g.near[a].has(b)
}

func (g graph) linked(a, b int) graph {
	g.near[a] = g.near[a].with(b)
	g.near[b] = g.near[b].with(a)
	return g
}

func (g graph) cut(a, b int) graph {
	g.near[a] = g.near[a].without(b)
	g.near[b] = g.near[b].without(a)
	return g
}

func (g graph) without(v int) graph {
	rest := graph{count: g.count - 1}
	for w := range rest.count {
		old := w
		if w >= v {
			old = w + 1
		}
		rest.near[w] = g.near[old].closedUp(v)
	}
	return rest
}

func (g graph) other() graph {
	for v := range g.count {
		g.near[v] = g.nodes().without(v) &^ g.near[v]
	}
	return g
}

// edges gives out all edges, in order, the lower node first.
func (g graph) edges() iter.Seq2[int, int] {
	return func(yield func(int, int) bool) {
		for a := range g.count {
			for b := range g.neighbours(a) {
				if a < b && !yield(a, b) {
					return
				}
			}
		}
	}
}

// around returns the set of all neighbours of the nodes of a set.
func (g graph) around(s nodeSet) nodeSet {
	var near nodeSet
	for v := range s.all() {
		near |= g.near[v]
	}
	return near
}

// isFree reports whether no two nodes of a set are neighbours.
func (g graph) isFree(s nodeSet) bool {
	return g.around(s)&s == 0
}

// partOf returns the part that has a node.
func (g graph) partOf(v int) nodeSet {
	part := nodeSet(0).with(v)
	for {
		more := part | g.around(part)
		if more == part {
			return part
		}
		part = more
	}
}

// parts gives out the parts, in the order of their lowest nodes.
func (g graph) parts() iter.Seq[nodeSet] {
	return func(yield func(nodeSet) bool) {
		var seen nodeSet
		for v := range g.count {
			if seen.has(v) {
				continue
			}
			part := g.partOf(v)
			seen |= part
			if !yield(part) {
				return
			}
		}
	}
}

// evenFrom returns what is reached from a node in an even number of steps.
func (g graph) evenFrom(v int) nodeSet {
	even := nodeSet(0).with(v)
	for {
		more := even | g.around(g.around(even))
		if more == even {
			return even
		}
		even = more
	}
}

// leftSide returns the left side of a graph with sides; it fails for others.
func (g graph) leftSide() (nodeSet, bool) {
	var left nodeSet
	for part := range g.parts() {
		left |= g.evenFrom(part.lowest())
	}
	// Of a part without sides, all nodes are reached in an even number of steps, so to look for neighbours on the left is enough.
	if !g.isFree(left) {
		return 0, false
	}
	return left, true
}

// wayOf returns the way of n nodes; it fails if n is not from 1 to NodesMax.
func wayOf(n int) (graph, bool) {
	g, ok := bareGraph(n)
	for v := 1; v < g.count; v++ {
		g = g.linked(v-1, v)
	}
	return g, ok
}

// GraphIn reports whether a list is a graph.
func GraphIn(g []int) bool {
	_, ok := graphFrom(g)
	return ok
}

// GraphOf returns the graph with n nodes and some edges, told as lists of two nodes in any order, some of which may stand more than once, and true.
func GraphOf(n int, edges [][]int) ([]int, bool) {
	made, ok := bareGraph(n)
	if !ok {
		return nil, false
	}
	for _, e := range edges {
		if len(e) != 2 || e[0] == e[1] || !made.hasNode(e[0]) || !made.hasNode(e[1]) {
			return nil, false
		}
		made = made.linked(e[0], e[1])
	}
	return made.list(), true
}

// GraphEdges returns all edges, in order, and true.
func GraphEdges(g []int) ([][]int, bool) {
	read, ok := graphFrom(g)
	if !ok {
		return nil, false
	}
	edges := [][]int{}
	for a, b := range read.edges() {
		edges = append(edges, []int{a, b})
	}
	return edges, true
}

// GraphDegrees returns the number of neighbours of each node, and true.
func GraphDegrees(g []int) ([]int, bool) {
	read, ok := graphFrom(g)
	if !ok {
		return nil, false
	}
	degrees := make([]int, read.count)
	for v := range degrees {
		for range read.neighbours(v) {
			degrees[v]++
		}
	}
	return degrees, true
}

// GraphWithout returns the graph without a node, all greater ones called 1 less, and true.
func GraphWithout(g []int, v int) ([]int, bool) {
	read, ok := graphFrom(g)
	if !ok || !read.hasNode(v) || read.count == 1 {
		return nil, false
	}
	return read.without(v).list(), true
}

// GraphCut returns the graph without the edge of two nodes, and true.
func GraphCut(g []int, a int, b int) ([]int, bool) {
	read, ok := graphFrom(g)
	if !ok || !read.areNeighbours(a, b) {
		return nil, false
	}
	return read.cut(a, b).list(), true
}

// GraphOther returns the graph in which just those nodes are neighbours that are not, and true.
func GraphOther(g []int) ([]int, bool) {
	read, ok := graphFrom(g)
	if !ok {
		return nil, false
	}
	return read.other().list(), true
}

// GraphBeside returns the graph of two ones beside each other.
func GraphBeside(g []int, h []int) ([]int, bool) {
	first, ok := graphFrom(g)
	second, fine := graphFrom(h)
	if !ok || !fine {
		return nil, false
	}
	both, ok := bareGraph(first.count + second.count)
	if !ok {
		return nil, false
	}
	for a, b := range first.edges() {
		both = both.linked(a, b)
	}
	for a, b := range second.edges() {
		both = both.linked(first.count+a, first.count+b)
	}
	return both.list(), true
}

// GraphParts returns the parts of a graph, in the order of their lowest nodes, and true.
func GraphParts(g []int) ([]int, bool) {
	read, ok := graphFrom(g)
	if !ok {
		return nil, false
	}
	var parts []int
	for part := range read.parts() {
		parts = append(parts, int(part))
	}
	return parts, true
}

// GraphSides returns the left side of a graph with sides, and true.
func GraphSides(g []int) (int, bool) {
	read, ok := graphFrom(g)
	if !ok {
		return 0, false
	}
	left, ok := read.leftSide()
	return int(left), ok
}

// GraphWay returns the graph of n nodes, n from 1 to NodesMax, in which each one and the next one are neighbours, and true.
func GraphWay(n int) ([]int, bool) {
	way, ok := wayOf(n)
	if !ok {
		return nil, false
	}
	return way.list(), true
}

// GraphRing returns the graph of n nodes, n from 3 to NodesMax, in which each one and the next one, and the last one and the first one, are neighbours, and true.
func GraphRing(n int) ([]int, bool) {
	way, ok := wayOf(n)
	if !ok || n < 3 {
		return nil, false
	}
	return way.linked(0, n-1).list(), true
}

// GraphFull returns the graph of n nodes, n from 1 to NodesMax, in which all are neighbours of each other, and true.
func GraphFull(n int) ([]int, bool) {
	bare, ok := bareGraph(n)
	if !ok {
		return nil, false
	}
	return bare.other().list(), true
}
