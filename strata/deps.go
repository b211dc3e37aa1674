package strata

import (
	"cmp"
	"iter"
	"maps"
	"slices"
	"strings"

	"inkling/api"
)

// standing tells what each literal of a program in form says of what hangs on what, as often as it is said.
func standing(p api.Program) iter.Seq[api.Dep] {
	return func(yield func(api.Dep) bool) {
		for _, rule := range p.Rules {
			for _, literal := range rule.Body {
				if literal.Kind == api.Unlike {
					continue
				}
				dep := api.Dep{Head: rule.Head.Pred, Body: literal.Atom.Pred, Negative: literal.Kind == api.Negative}
				if !yield(dep) {
					return
				}
			}
		}
	}
}

// set is a set of Deps.
type set map[api.Dep]struct{}

// rising is what is told of a program, each Dep once, in the order of P14.2.
func rising(p api.Program) []api.Dep {
	told := set{}
	for dep := range standing(p) {
		told[dep] = struct{}{}
	}
	return slices.SortedFunc(maps.Keys(told), compare)
}

func compare(a, b api.Dep) int {
	return cmp.Or(strings.Compare(a.Head, b.Head), strings.Compare(a.Body, b.Body), cmp.Compare(sign(a), sign(b)))
}

// sign is how far a Dep lifts its head above its body.
func sign(dep api.Dep) int {
	if dep.Negative {
		return 1
	}
	return 0
}

// copied is a Dep whose texts are its own.
func copied(dep api.Dep) api.Dep {
	return api.Dep{Head: strings.Clone(dep.Head), Body: strings.Clone(dep.Body), Negative: dep.Negative}
}

// edges are Deps as edges of a graph, with the same numbers.
func edges(deps []api.Dep) []api.Edge {
	var list []api.Edge
	for _, dep := range deps {
		list = append(list, api.Edge{From: dep.Head, To: dep.Body, Negative: dep.Negative})
	}
	return list
}
