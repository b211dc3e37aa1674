package safe

import "inkling/api"

// binders has the variables that a body binds, each with the number of the first literal that does.
type binders map[string]int

func bindersOf(body []api.Literal) binders {
	bound := binders{}
	for i, name := range binding(body) {
		if _, there := bound[name]; !there {
			bound[name] = i
		}
	}
	return bound
}

// all tells whether all variables of the body are bound.
func (b binders) all(body []api.Literal) bool {
	for _, name := range standing(api.Rule{Body: body}) {
		if _, there := b[name]; !there {
			return false
		}
	}
	return true
}

// last is the number of the literal behind which all variables of a literal are bound.
func (b binders) last(l api.Literal) int {
	last := 0
	for name := range variables(terms(l)) {
		last = max(last, b[name])
	}
	return last
}

// take takes the literals of a body that binds all its variables, always the first one that is ready.
func take(body []api.Literal, bound binders) []int {
	var way []int
	// Each that waits stands by the literal that makes it ready, and is taken right behind that one: whatever else is left ahead of it waits for more, and what waits binds nothing.
	waiting := map[int][]int{}
literals:
	for i, literal := range body {
		if !isOfTheThree(literal) {
			continue literals
		}
		// A positive literal is never left here: it binds its variables itself, if none ahead of it does.
		for name := range variables(terms(literal)) {
			if bound[name] > i {
				last := bound.last(literal)
				waiting[last] = append(waiting[last], i)
				continue literals
			}
		}
		way = append(append(way, i), waiting[i]...)
	}
	return way
}
