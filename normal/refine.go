package normal

import "slices"

// group is variables of one colour that stand in the same way beside those that were painted.
type group struct {
	colour    int
	variables []int
}

// refine gives variables of one colour several ones, where they stand in several ways beside those that were painted, and goes on so with these; false, if a colour is left that more variables of the one rule have than of the other.
func (p *pair) refine(painted []int) bool {
	for len(painted) > 0 {
		groups := p.groups(painted)
		stay := p.staying(groups)
		painted = nil
		for i, g := range groups {
			if stay[g.colour] != i {
				p.paintAll(g.variables, p.newColour())
				painted = append(painted, g.variables...)
			}
		}
		if slices.ContainsFunc(groups, p.isUneven) {
			return false
		}
	}
	return true
}

// isUneven tells whether the rules differ in how many variables have the colour that a group had, or has.
func (p *pair) isUneven(g group) bool {
	had, has := p.sizes[g.colour], p.sizes[p.colour[g.variables[0]]]
	return had[0] != had[1] || has[0] != has[1]
}

// staying tells by colours which group keeps it: none (-1), if some of the colour are in no group; else the greatest one, since the fewer are painted, the less is to be looked at.
func (p *pair) staying(groups []group) map[int]int {
	grouped, stay := map[int]int{}, map[int]int{}
	for i, g := range groups {
		grouped[g.colour] += len(g.variables)
		if best, met := stay[g.colour]; !met || len(groups[best].variables) < len(g.variables) {
			stay[g.colour] = i
		}
	}
	for colour, count := range grouped {
		if size := p.sizes[colour]; count < size[0]+size[1] {
			stay[colour] = -1
		}
	}
	return stay
}

// groups are the variables that stand in a piece with a painted one.
func (p *pair) groups(painted []int) []group {
	var touched []int
	signs := map[int][]int{}
	looks, ways := numbers[string]{}, numbers[string]{}
	for _, piece := range p.piecesWith(painted) {
		look := looks.of(p.look(piece))
		for k, variable := range p.places[piece] {
			if variable < 0 {
				continue
			}
			if _, met := signs[variable]; !met {
				touched = append(touched, variable)
			}
			if p.both[piece] {
				k = min(k, len(p.places[piece])-2)
			}
			signs[variable] = append(signs[variable], ways.of(written(k, look)))
		}
	}
	var all []group
	which := numbers[string]{}
	for _, variable := range touched {
		slices.Sort(signs[variable])
		i := which.of(written(p.colour[variable]) + written(signs[variable]...))
		if i == len(all) {
			all = append(all, group{colour: p.colour[variable]})
		}
		all[i].variables = append(all[i].variables, variable)
	}
	return all
}

// piecesWith are the pieces in which one of these variables stands, each once.
func (p *pair) piecesWith(variables []int) []int {
	var all []int
	met := map[int]struct{}{}
	for _, variable := range variables {
		for _, piece := range p.at[variable] {
			if _, is := met[piece]; !is {
				met[piece] = struct{}{}
				all = append(all, piece)
			}
		}
	}
	return all
}

// look is a piece as a text, with colours for variables: what is seen of it by one who knows no more of them.
func (p *pair) look(piece int) string {
	var list []int
	for _, variable := range p.places[piece] {
		if variable >= 0 {
			variable = p.colour[variable]
		}
		list = append(list, variable)
	}
	if p.both[piece] {
		slices.Sort(list[len(list)-2:])
	}
	return written(p.labels[piece]) + written(list...)
}
