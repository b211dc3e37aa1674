package normal

import "inkling/api"

// slot is a place of a piece: which unknown stands there, and where in the piece this one first stands.
type slot struct{ unknown, first int }

// pattern is a rule as it is held against others. Each of its terms is an unknown: a constant becomes known when the other rule's terms are.
type pattern struct {
	terms  []api.Term
	at     [][]int // in which pieces each unknown stands
	shapes []shape
	slots  [][]slot
}

func patternOf(r api.Rule) pattern {
	var p pattern
	unknowns := numbers[api.Term]{}
	for i, piece := range pieces(r) {
		var slots []slot
		firsts := map[int]int{}
		for k, term := range piece.terms {
			unknown := unknowns.of(term)
			if unknown == len(p.terms) {
				p.terms = append(p.terms, term)
				p.at = append(p.at, nil)
			}
			if _, met := firsts[unknown]; !met {
				firsts[unknown] = k
				p.at[unknown] = append(p.at[unknown], i)
			}
			slots = append(slots, slot{unknown: unknown, first: firsts[unknown]})
		}
		p.shapes = append(p.shapes, piece.shape)
		p.slots = append(p.slots, slots)
	}
	return p
}
