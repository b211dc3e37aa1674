package normal

import (
	"cmp"
	"slices"
)

// cluster is open variables of one rule that hang together by pieces in which they stand, rising by their colours.
type cluster struct {
	variables, colours []int
}

func (c cluster) hasColoursOf(other cluster) bool { return slices.Equal(c.colours, other.colours) }

// rarest is a variable of the colour that the fewest of a cluster have, and this colour.
func (c cluster) rarest() (variable, colour int) {
	best, least := 0, len(c.colours)+1
	for from := 0; from < len(c.colours); {
		to := from
		for to < len(c.colours) && c.colours[to] == c.colours[from] {
			to++
		}
		if to-from < least {
			best, least = from, to-from
		}
		from = to
	}
	return c.variables[best], c.colours[best]
}

// clusters are the open ones of some variables, in an order that is the same for both rules, if they fit.
func (p *pair) clusters(among []int) []cluster {
	var all []cluster
	met, gone := map[int]struct{}{}, map[int]struct{}{}
	for _, first := range among {
		if _, is := met[first]; is || !p.isOpen(first) {
			continue
		}
		met[first] = struct{}{}
		reached := []int{first}
		for i := 0; i < len(reached); i++ {
			for _, piece := range p.at[reached[i]] {
				if _, is := gone[piece]; is {
					continue
				}
				gone[piece] = struct{}{}
				for _, other := range p.places[piece] {
					if other < 0 || !p.isOpen(other) {
						continue
					}
					if _, is := met[other]; !is {
						met[other] = struct{}{}
						reached = append(reached, other)
					}
				}
			}
		}
		all = append(all, p.clusterOf(reached))
	}
	slices.SortFunc(all, func(a, b cluster) int { return slices.Compare(a.colours, b.colours) })
	return all
}

func (p *pair) clusterOf(variables []int) cluster {
	slices.SortFunc(variables, func(a, b int) int { return cmp.Compare(p.colour[a], p.colour[b]) })
	c := cluster{variables: variables}
	for _, variable := range variables {
		c.colours = append(c.colours, p.colour[variable])
	}
	return c
}
