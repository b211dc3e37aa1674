package graph

import (
	"slices"

	"inkling/api"
	"inkling/order"
)

// net is a graph in numbers. A node is told by its place among the rising ones, so places compare as their texts do; an edge is told by its number.
type net struct {
	nodes    []string
	places   map[string]int
	edges    []api.Edge
	from, to []int // of each edge; none, if the edge is left out
	out, in  rows  // of each node the edges that lead from it, and to it
}

// none is where an edge that is left out leads from and to.
const none = -1

func netOf(names []string, edges []api.Edge) *net {
	n := &net{places: map[string]int{}, edges: edges}
	for _, name := range names {
		n.meet(name)
	}
	for _, edge := range edges {
		n.meet(edge.From)
		n.meet(edge.To)
	}
	n.nodes = order.Sort(n.nodes, order.Texts)
	for place, node := range n.nodes {
		n.places[node] = place
	}
	for _, edge := range edges {
		n.from = append(n.from, n.places[edge.From])
		n.to = append(n.to, n.places[edge.To])
	}
	n.lay()
	return n
}

// meet puts a node that is new among the nodes, which don't rise yet.
func (n *net) meet(node string) {
	if _, there := n.places[node]; !there {
		n.places[node] = len(n.nodes)
		n.nodes = append(n.nodes, node)
	}
}

// lay lays the edges by their ends.
func (n *net) lay() {
	n.out = rowsBy(len(n.nodes), n.from)
	n.in = rowsBy(len(n.nodes), n.to)
}

// within is the graph with those edges alone that stay within a part: no round trip has another one.
func (n *net) within(part []int) *net {
	w := &net{nodes: n.nodes, places: n.places, edges: n.edges, from: slices.Clone(n.from), to: slices.Clone(n.to)}
	for edge, from := range n.from {
		if part[from] != part[n.to[edge]] {
			w.from[edge], w.to[edge] = none, none
		}
	}
	w.lay()
	return w
}

// rows are lists of numbers, which lie behind one another in one list.
type rows struct{ starts, all []int }

// rowsBy puts each number from 0 on in the row that is told for it, of so many rows; so the numbers rise in each. What is told none stands in no row.
func rowsBy(count int, told []int) rows {
	starts := make([]int, count+1)
	for _, row := range told {
		if row != none {
			starts[row+1]++
		}
	}
	for row := range count {
		starts[row+1] += starts[row]
	}
	all := make([]int, starts[count])
	next := slices.Clone(starts)
	for number, row := range told {
		if row != none {
			all[next[row]] = number
			next[row]++
		}
	}
	return rows{starts: starts, all: all}
}

func (r rows) of(row int) []int { return r.all[r.starts[row]:r.starts[row+1]] }
