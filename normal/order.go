package normal

import (
	"cmp"
	"slices"
	"strings"

	"inkling/api"
)

// compareLists orders lists by how many things they have, then by the first thing in which they differ.
func compareLists[T any](a, b []T, compare func(a, b T) int) int {
	if len(a) != len(b) {
		return cmp.Compare(len(a), len(b))
	}
	for i := range a {
		if order := compare(a[i], b[i]); order != 0 {
			return order
		}
	}
	return 0
}

func compareTerms(a, b api.Term) int {
	switch {
	case a.Var == b.Var:
		return strings.Compare(a.Text, b.Text)
	case b.Var:
		return -1
	}
	return 1
}

func compareAtoms(a, b api.Atom) int {
	return cmp.Or(strings.Compare(a.Pred, b.Pred), compareLists(a.Args, b.Args, compareTerms))
}

// turned is a literal with the less of its two terms first, if it says the same either way round.
func turned(l api.Literal) api.Literal {
	if l.Kind == api.Unlike && compareTerms(l.Right, l.Left) < 0 {
		l.Left, l.Right = l.Right, l.Left
	}
	return l
}

// inOrder puts a body in order, in its own place.
func inOrder(body []api.Literal) []api.Literal {
	for i, literal := range body {
		body[i] = turned(literal)
	}
	slices.SortFunc(body, Compare)
	return slices.CompactFunc(body, func(a, b api.Literal) bool { return Compare(a, b) == 0 })
}

// inOneOrder is a rule with its body in order, which shares its atoms with the rule: for what is not told.
func inOneOrder(r api.Rule) api.Rule {
	return api.Rule{Head: r.Head, Body: inOrder(slices.Clone(r.Body))}
}
