package graph

import (
	"math/rand"

	"inkling/api"
)

// drawer draws graphs: one edge of so many is negative (none at 0); of other edges one of so many leads to a node that is not below its own, so that there are few ways round (any at 0).
type drawer struct {
	r              *rand.Rand
	nodes          []string
	negative, back int
}

func (d drawer) oneIn(count int) bool { return count > 0 && d.r.Intn(count) == 0 }

func (d drawer) node() string { return d.nodes[d.r.Intn(len(d.nodes))] }

func (d drawer) names(most int) []string {
	var list []string
	for range d.r.Intn(most + 1) {
		list = append(list, d.node())
	}
	return list
}

func (d drawer) edge() api.Edge {
	from, to := d.r.Intn(len(d.nodes)), d.r.Intn(len(d.nodes))
	if d.back > 0 && from <= to && !d.oneIn(d.back) {
		from, to = max(to, 1), from
		to = min(to, from-1)
	}
	return api.Edge{From: d.nodes[from], To: d.nodes[to], Negative: d.oneIn(d.negative)}
}

func (d drawer) edges(most int) []api.Edge {
	var list []api.Edge
	for range d.r.Intn(most + 1) {
		list = append(list, d.edge())
	}
	return list
}

func (d drawer) shuffled(edges []api.Edge) []api.Edge {
	other := append([]api.Edge(nil), edges...)
	d.r.Shuffle(len(other), func(i, k int) { other[i], other[k] = other[k], other[i] })
	return other
}

// odd are texts of all kinds, some the beginnings of others.
func odd() []string {
	return []string{"", "\x00", "a", "a\x00", "aa", "b", "B", "ab", "\xff", "\xff\xfe", "a b", "\n", "ä", "input", "\"", "é\xcc"}
}
