package graph

import (
	"cmp"

	"inkling/order"
)

// parts are a graph's parts, numbered such that each one comes to none above it.
type parts struct {
	of    []int // each node's part
	nodes rows  // each part's nodes
	count int
}

// finder goes through a graph, each time as deep as it can.
type finder struct {
	net    *net
	met    []int // at which turn each node was met, from 1 on; 0: not yet
	low    []int // the earliest turn of an open node that the node is known to come to
	looked []int // how many edges that lead from the node were looked at
	way    []int // the nodes from where it began to where it is
	open   []int // the nodes that were met, but for those whose part is known
	of     []int // each node's part; none, if it is not known
	turns  int
	count  int
}

func partsOf(n *net) parts {
	nodes := len(n.nodes)
	f := &finder{net: n, met: make([]int, nodes), low: make([]int, nodes), looked: make([]int, nodes), of: make([]int, nodes)}
	for node := range f.of {
		f.of[node] = none
	}
	for node, turn := range f.met {
		if turn == 0 {
			f.walk(node)
		}
	}
	return parts{of: f.of, nodes: rowsBy(f.count, f.of), count: f.count}
}

// walk goes from a node to all that it comes to and that were not met yet, and tells their parts.
func (f *finder) walk(node int) {
	f.meet(node)
round:
	here := f.way[len(f.way)-1]
	if f.looked[here] < len(f.net.out.of(here)) {
		f.look(here)
		goto round
	}
	f.leave(here)
	if len(f.way) > 0 {
		goto round
	}
}

func (f *finder) meet(node int) {
	f.turns++
	f.met[node], f.low[node] = f.turns, f.turns
	f.way = append(f.way, node)
	f.open = append(f.open, node)
}

// look looks at the next edge that leads from a node.
func (f *finder) look(node int) {
	to := f.net.to[f.net.out.of(node)[f.looked[node]]]
	f.looked[node]++
	switch {
	case f.met[to] == 0:
		f.meet(to)
	case f.of[to] == none:
		f.low[node] = min(f.low[node], f.met[to])
	}
}

// leave goes back from the way's last node, all of whose edges were looked at. If it comes to no earlier one that is open, the open ones from it on are its part.
func (f *finder) leave(node int) {
	f.way = f.way[:len(f.way)-1]
	if last := len(f.way) - 1; last >= 0 {
		before := f.way[last]
		f.low[before] = min(f.low[before], f.low[node])
	}
	if f.low[node] < f.met[node] {
		return
	}
	for f.of[node] == none {
		last := len(f.open) - 1
		f.of[f.open[last]] = f.count
		f.open = f.open[:last]
	}
	f.count++
}

// inOrder are the parts, each behind those to which it comes, of those that may stand next the one with the least first node.
func (p parts) inOrder(n *net) []int {
	ready := order.New(func(a, b int) int { return cmp.Compare(p.nodes.of(a)[0], p.nodes.of(b)[0]) })
	waits := make([]int, p.count)
	for edge, from := range n.from {
		if p.of[from] != p.of[n.to[edge]] {
			waits[p.of[from]]++
		}
	}
	for part, count := range waits {
		if count == 0 {
			ready.Push(part)
		}
	}
	var list []int
	for part, ok := ready.Pop(); ok; part, ok = ready.Pop() {
		list = append(list, part)
		for _, other := range p.over(n, part) {
			waits[other]--
			if waits[other] == 0 {
				ready.Push(other)
			}
		}
	}
	return list
}

// over are the other parts from which an edge leads to a part, each as often as one does.
func (p parts) over(n *net, part int) []int {
	var list []int
	for _, node := range p.nodes.of(part) {
		for _, edge := range n.in.of(node) {
			if other := p.of[n.from[edge]]; other != part {
				list = append(list, other)
			}
		}
	}
	return list
}

// levels are the least level of each part; none and false, if a negative edge stays within one.
func (p parts) levels(n *net) ([]int, bool) {
	levels := make([]int, p.count)
	for part := range p.count {
		for _, node := range p.nodes.of(part) {
			for _, edge := range n.out.of(node) {
				to, negative := p.of[n.to[edge]], n.edges[edge].Negative
				if to == part && negative {
					return nil, false
				}
				// Of the part itself this says nothing: all that it comes to is lower, and has its level.
				least := levels[to]
				if negative {
					least++
				}
				levels[part] = max(levels[part], least)
			}
		}
	}
	return levels, true
}
