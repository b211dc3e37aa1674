package roles

import (
	"iter"

	"inkling/api"
)

// standing tells each place at which a predicate of a program in form stands, in order, and its arity there.
func standing(p api.Program) iter.Seq2[api.Spot, int] {
	return func(yield func(api.Spot, int) bool) {
		for i, input := range p.Inputs {
			if !yield(api.Spot{Part: api.PartInput, Index: i, Pred: input.Pred}, input.Arity) {
				return
			}
		}
		for i, output := range p.Outputs {
			if !yield(api.Spot{Part: api.PartOutput, Index: i, Pred: output.Pred}, output.Arity) {
				return
			}
		}
		for i, rule := range p.Rules {
			for atom := range atoms(rule) {
				if !yield(api.Spot{Part: api.PartRule, Index: i, Pred: atom.Pred}, len(atom.Args)) {
					return
				}
			}
		}
	}
}

// atoms tells the head of a rule in form, then the atoms of its body.
func atoms(r api.Rule) iter.Seq[api.Atom] {
	return func(yield func(api.Atom) bool) {
		if !yield(r.Head) {
			return
		}
		for _, literal := range r.Body {
			if literal.Kind != api.Unlike && !yield(literal.Atom) {
				return
			}
		}
	}
}
