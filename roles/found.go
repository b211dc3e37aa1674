package roles

import (
	"slices"
	"strings"

	"inkling/api"
)

// found is what a program says of its predicates.
type found struct {
	roles  []api.Role     // in the order in which their predicates first stand
	places map[string]int // where a predicate's role stands among them
}

// look is what a program says of its predicates, and OK; or where something is wrong, and what.
func look(p api.Program) (*found, api.Spot, api.Errno) {
	if spot := firstUnformed(p); spot.Part != 0 {
		return nil, spot, api.ErrArg
	}
	f := &found{places: map[string]int{}}
	for spot, arity := range standing(p) {
		if f.meet(spot.Pred, arity).Arity != arity {
			return nil, spot, api.ErrArity
		}
	}
	f.count(p)
	if spot := f.firstMixed(p); spot.Part != 0 {
		return nil, spot, api.ErrMixed
	}
	return f, api.Spot{}, api.OK
}

// lookWith is what a program says of its predicates, and OK, if the relations are its facts.
func lookWith(p api.Program, l []api.Relation) (*found, api.Errno) {
	f, _, e := look(p)
	switch {
	case e != api.OK:
		return nil, api.ErrProgram
	case !f.takes(l):
		return nil, api.ErrFacts
	}
	return f, api.OK
}

// meet is a predicate's role, which has this arity, if the predicate is new.
func (f *found) meet(pred string, arity int) *api.Role {
	if place, there := f.places[pred]; there {
		return &f.roles[place]
	}
	f.places[pred] = len(f.roles)
	f.roles = append(f.roles, api.Role{Pred: strings.Clone(pred), Arity: arity})
	return &f.roles[len(f.roles)-1]
}

// of is the role of a predicate that was met.
func (f *found) of(pred string) *api.Role { return &f.roles[f.places[pred]] }

// count counts how many statements name each predicate so.
func (f *found) count(p api.Program) {
	for _, input := range p.Inputs {
		f.of(input.Pred).Inputs++
	}
	for _, output := range p.Outputs {
		f.of(output.Pred).Outputs++
	}
	for _, rule := range p.Rules {
		role := f.of(rule.Head.Pred)
		if len(rule.Body) == 0 {
			role.Facts++
			continue
		}
		role.Rules++
		role.Derived = true
	}
}

// firstMixed is the first statement, in order, that gives what is derived, or the zero spot.
func (f *found) firstMixed(p api.Program) api.Spot {
	for i, input := range p.Inputs {
		if f.of(input.Pred).Derived {
			return api.Spot{Part: api.PartInput, Index: i, Pred: input.Pred}
		}
	}
	for i, rule := range p.Rules {
		if len(rule.Body) == 0 && f.of(rule.Head.Pred).Derived {
			return api.Spot{Part: api.PartRule, Index: i, Pred: rule.Head.Pred}
		}
	}
	return api.Spot{}
}

// takes tells whether relations are facts.
func (f *found) takes(l []api.Relation) bool {
	for i, relation := range l {
		if i > 0 && l[i-1].Pred >= relation.Pred {
			return false
		}
		place, there := f.places[relation.Pred]
		if !there || f.roles[place].Derived || f.roles[place].Arity != relation.Arity || !formedRelation(relation) {
			return false
		}
	}
	return true
}

// formedRelation tells whether the tuples are of constants, of the arity, and rise.
func formedRelation(r api.Relation) bool {
	for i, tuple := range r.Tuples {
		if len(tuple) != r.Arity || (i > 0 && slices.Compare(r.Tuples[i-1], tuple) >= 0) {
			return false
		}
		for _, text := range tuple {
			if !isConstant(text) {
				return false
			}
		}
	}
	return true
}

// rising are the roles, rising by their predicates.
func (f *found) rising() []api.Role {
	return slices.SortedFunc(slices.Values(f.roles), func(a, b api.Role) int { return strings.Compare(a.Pred, b.Pred) })
}
