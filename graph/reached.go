package graph

import "iter"

// reached is what a search through a graph came to: how far each node is, and the nodes, the nearest first.
type reached struct {
	far  []int
	list []int
}

// How far a node is that was not come to, or may not be.
const (
	notYet = -1
	barred = -2
)

func noneReached(nodes int) *reached {
	r := &reached{far: make([]int, nodes)}
	for node := range r.far {
		r.far[node] = notYet
	}
	return r
}

func (r *reached) has(node int) bool { return r.far[node] >= 0 }

// put puts a node so far away, unless it is there already, or barred.
func (r *reached) put(node, far int) {
	if r.far[node] == notYet {
		r.far[node] = far
		r.list = append(r.list, node)
	}
}

// spread goes on from all that is reached, by the edges that each node has in its row, to their ends, up to so many steps away.
func (r *reached) spread(by rows, ends []int, most int) {
search:
	for node := range each(&r.list) {
		far := r.far[node] + 1
		if far > most {
			break search
		}
		for _, edge := range by.of(node) {
			r.put(ends[edge], far)
		}
	}
}

// forget takes back all that was reached, in time that grows with that alone.
func (r *reached) forget() {
	for _, node := range r.list {
		r.far[node] = notYet
	}
	r.list = r.list[:0]
}

// each tells what is in a list, and what joins it while it is ranged over.
func each(list *[]int) iter.Seq[int] {
	return func(yield func(int) bool) {
		for i := 0; i < len(*list); i++ {
			if !yield((*list)[i]) {
				return
			}
		}
	}
}
