package graph

// trip is what tells the best round trip: how many edges it has, and the number of its first one.
type trip struct{ length, first int }

// ahead tells whether a trip is better than another one; no trip at all has no length.
func (t trip) ahead(other trip) bool {
	if t.length != other.length {
		return other.length == 0 || t.length < other.length
	}
	return t.first < other.first
}

// seeker looks for the best round trip in a graph whose edges stay within its parts. It goes from hub to hub: a node through which it looks for all trips, and which is dropped then, so that the graph gets less and less.
type seeker struct {
	net         *net
	there, back *reached // what the hub comes to; what comes to the hub
	outs, ins   []int    // how many edges are left that lead from a node, and to it
	best        trip
}

// shortest is the best of the round trips whose first edge is negative.
func shortest(n *net) (trip, bool) {
	nodes := len(n.nodes)
	s := &seeker{net: n, there: noneReached(nodes), back: noneReached(nodes), outs: make([]int, nodes), ins: make([]int, nodes)}
	for node := range nodes {
		s.outs[node], s.ins[node] = len(n.out.of(node)), len(n.in.of(node))
	}
	for edge, from := range n.from {
		if from != none && n.edges[edge].Negative && s.left(from) && s.left(n.to[edge]) {
			s.through(from, s.most(edge))
			s.drop(from)
		}
	}
	return s.best, s.best.length > 0
}

// left tells whether a node was not dropped.
func (s *seeker) left(node int) bool { return s.there.far[node] != barred }

// most is how many edges a trip may have that is better, if all negative edges that are left have this number or a greater one.
func (s *seeker) most(edge int) int {
	switch {
	case s.best.length == 0:
		return len(s.net.nodes)
	case s.best.first < edge:
		return s.best.length - 1
	}
	return s.best.length
}

// through looks for better trips through a node, of at most so many edges: from it to a negative edge, and from there back to it.
func (s *seeker) through(hub, most int) {
	s.back.put(hub, 0)
	s.back.spread(s.net.in, s.net.from, most-1)
	s.there.put(hub, 0)
	s.there.spread(s.net.out, s.net.to, most-1)
	for _, node := range s.there.list {
		for _, edge := range s.net.out.of(node) {
			to := s.net.to[edge]
			if !s.net.edges[edge].Negative || !s.back.has(to) {
				continue
			}
			if t := (trip{length: s.there.far[node] + 1 + s.back.far[to], first: edge}); t.ahead(s.best) {
				s.best = t
			}
		}
	}
	s.there.forget()
	s.back.forget()
}

// drop drops a node, and with it each one from which, or to which, no edge is left then.
func (s *seeker) drop(node int) {
	var list []int
	bar := func(node int) {
		if s.left(node) {
			s.there.far[node], s.back.far[node] = barred, barred
			list = append(list, node)
		}
	}
	bar(node)
	for node := range each(&list) {
		for _, edge := range s.net.out.of(node) {
			to := s.net.to[edge]
			s.ins[to]--
			if s.ins[to] == 0 {
				bar(to)
			}
		}
		for _, edge := range s.net.in.of(node) {
			from := s.net.from[edge]
			s.outs[from]--
			if s.outs[from] == 0 {
				bar(from)
			}
		}
	}
}

// row is the least row of edges of a round trip: at each node the first edge by which the rest is no longer than it must be.
func (n *net) row(t trip) []int {
	home, node := n.from[t.first], n.to[t.first]
	back := noneReached(len(n.nodes))
	back.put(home, 0)
	back.spread(n.in, n.from, t.length-1)
	row := []int{t.first}
search:
	for node != home {
		for _, edge := range n.out.of(node) {
			if back.far[n.to[edge]] == back.far[node]-1 {
				row = append(row, edge)
				node = n.to[edge]
				continue search
			}
		}
	}
	return row
}
