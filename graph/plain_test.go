package graph

import (
	"slices"

	"inkling/api"
)

// What stands here goes by the document's words alone, without a map, a stack or a heap: a measure for what the package answers.

func plainNodes(names []string, edges []api.Edge) []string {
	all := slices.Clone(names)
	for _, e := range edges {
		all = append(all, e.From, e.To)
	}
	var rising []string
	for _, node := range all {
		if at, there := slices.BinarySearch(rising, node); !there {
			rising = slices.Insert(rising, at, node)
		}
	}
	return rising
}

// plainReach goes over all edges as often as one of them leads further.
func plainReach(edges []api.Edge, from ...string) []string {
	reached := plainNodes(from, nil)
	for more := true; more; {
		more = false
		for _, e := range edges {
			if slices.Contains(reached, e.From) && !slices.Contains(reached, e.To) {
				reached = plainNodes(append(reached, e.To), nil)
				more = true
			}
		}
	}
	return reached
}

// plainParts takes one part at a time: the first one by its first node that comes to no other one that is left.
func plainParts(names []string, edges []api.Edge) [][]string {
	nodes := plainNodes(names, edges)
	var reach [][]string
	for _, node := range nodes {
		reach = append(reach, plainReach(edges, node))
	}
	comes := func(a, b string) bool { return slices.Contains(reach[slices.Index(nodes, a)], b) }
	var told [][]string
	left := slices.Clone(nodes)
	for len(left) > 0 {
		next := slices.IndexFunc(left, func(node string) bool {
			return !slices.ContainsFunc(left, func(other string) bool { return comes(node, other) && !comes(other, node) })
		})
		first := left[next]
		apart := func(node string) bool { return !comes(first, node) || !comes(node, first) }
		part := slices.DeleteFunc(slices.Clone(nodes), apart)
		told = append(told, part)
		left = slices.DeleteFunc(left, func(node string) bool { return slices.Contains(part, node) })
	}
	return told
}

// plainLevels raises levels as long as an edge asks for it; above the number of nodes they would rise for ever.
func plainLevels(names []string, edges []api.Edge) ([]api.Rank, api.Errno) {
	nodes := plainNodes(names, edges)
	levels := make([]int, len(nodes))
	for more := true; more; {
		more = false
		for _, e := range edges {
			from, _ := slices.BinarySearch(nodes, e.From)
			to, _ := slices.BinarySearch(nodes, e.To)
			least := levels[to]
			if e.Negative {
				least++
			}
			if levels[from] < least {
				levels[from], more = least, true
			}
			if levels[from] > len(nodes) {
				return nil, api.ErrCycle
			}
		}
	}
	var ranks []api.Rank
	for i, node := range nodes {
		ranks = append(ranks, api.Rank{Node: node, Level: levels[i]})
	}
	return ranks, api.OK
}

// areLevels tells whether numbers, one a node, are levels.
func areLevels(nodes []string, edges []api.Edge, levels []int) bool {
	for _, e := range edges {
		from, to := levels[slices.Index(nodes, e.From)], levels[slices.Index(nodes, e.To)]
		if from < to || e.Negative && from == to {
			return false
		}
	}
	return true
}

// plainRow is the least row of that many edges, the first one negative, that is a round trip: all rows are gone through, the least first.
func plainRow(edges []api.Edge, length int, row ...int) []int {
	if len(row) == length {
		if edges[row[length-1]].To == edges[row[0]].From {
			return slices.Clone(row)
		}
		return nil
	}
	for i, e := range edges {
		if len(row) == 0 && !e.Negative || len(row) > 0 && edges[row[len(row)-1]].To != e.From {
			continue
		}
		if found := plainRow(edges, length, append(row, i)...); found != nil {
			return found
		}
	}
	return nil
}

// plainCycle asks for rows of one edge, of two and so on: a row of more edges than there are nodes passes one of them twice, so a shorter one is a round trip, too.
func plainCycle(edges []api.Edge) ([]int, bool) {
	for length := range len(plainNodes(nil, edges)) {
		if row := plainRow(edges, length+1); row != nil {
			return row, true
		}
	}
	return nil, false
}

// steppedCycle is plainCycle for graphs with too many rows: which edges lead home in just so many steps is worked out from the last one on, and then the least of them taken one by one.
func steppedCycle(edges []api.Edge) ([]int, bool) {
	var best []int
	for i, e := range edges {
		if !e.Negative {
			continue
		}
		row := steppedRow(edges, i)
		if row != nil && (best == nil || len(row) < len(best)) {
			best = row
		}
	}
	return best, best != nil
}

// steppedRow is the least row of the fewest edges that goes round and begins with that edge.
func steppedRow(edges []api.Edge, first int) []int {
	home := edges[first].From
	ahead := [][]string{{home}}
	for steps := 0; !slices.Contains(ahead[steps], edges[first].To); steps++ {
		if steps > len(edges) {
			return nil
		}
		var nodes []string
		for _, e := range edges {
			if slices.Contains(ahead[steps], e.To) {
				nodes = append(nodes, e.From)
			}
		}
		ahead = append(ahead, plainNodes(nodes, nil))
	}
	row := []int{first}
	for steps := len(ahead) - 2; steps >= 0; steps-- {
		here := edges[row[len(row)-1]].To
		row = append(row, slices.IndexFunc(edges, func(e api.Edge) bool {
			return e.From == here && slices.Contains(ahead[steps], e.To)
		}))
	}
	return row
}

func plainTurned(edges []api.Edge) []api.Edge {
	turned := slices.Clone(edges)
	for i, e := range edges {
		turned[i].From, turned[i].To = e.To, e.From
	}
	return turned
}
