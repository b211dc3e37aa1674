package safe

import (
	"slices"

	"inkling/api"
)

// What stands here goes by the document's words alone, one after the other and without a map: a measure for what the package answers.

func plainTerms(l api.Literal) []api.Term {
	if l.Kind == 1 || l.Kind == 2 {
		return l.Atom.Args
	}
	if l.Kind == 3 {
		return []api.Term{l.Left, l.Right}
	}
	return nil
}

// plainNames are the variables of terms, each once.
func plainNames(terms []api.Term) []string {
	var list []string
	for _, term := range terms {
		if term.Var && !slices.Contains(list, term.Text) {
			list = append(list, term.Text)
		}
	}
	return list
}

func plainVars(r api.Rule) []string {
	all := slices.Clone(r.Head.Args)
	for _, l := range r.Body {
		all = append(all, plainTerms(l)...)
	}
	return plainNames(all)
}

func plainBound(body []api.Literal) []string {
	var all []api.Term
	for _, l := range body {
		if l.Kind == 1 {
			all = append(all, plainTerms(l)...)
		}
	}
	return plainNames(all)
}

func plainLoose(r api.Rule) []string {
	return slices.DeleteFunc(plainVars(r), func(name string) bool { return slices.Contains(plainBound(r.Body), name) })
}

// plainFirst is the number of the literal in which a variable of a rule first stands.
func plainFirst(r api.Rule, name string) int {
	if slices.Contains(plainNames(r.Head.Args), name) {
		return -1
	}
	return slices.IndexFunc(r.Body, func(l api.Literal) bool { return slices.Contains(plainNames(plainTerms(l)), name) })
}

func plainFaults(p api.Program) []api.Loose {
	var all []api.Loose
	for i, r := range p.Rules {
		for _, name := range plainLoose(r) {
			all = append(all, api.Loose{Rule: i, Literal: plainFirst(r, name), Name: name})
		}
	}
	return all
}

func plainReady(l api.Literal, bound []string) bool {
	if l.Kind == 1 {
		return true
	}
	missing := func(name string) bool { return !slices.Contains(bound, name) }
	return (l.Kind == 2 || l.Kind == 3) && !slices.ContainsFunc(plainNames(plainTerms(l)), missing)
}

// plainLeft are the numbers of a body's literals that are of the three kinds.
func plainLeft(body []api.Literal) []int {
	var left []int
	for i, l := range body {
		if l.Kind == 1 || l.Kind == 2 || l.Kind == 3 {
			left = append(left, i)
		}
	}
	return left
}

// plainWay takes one literal at a time, and looks for it from the first one on each time.
func plainWay(r api.Rule) ([]int, bool) {
	var way []int
	var bound []string
	left := plainLeft(r.Body)
	for len(left) > 0 {
		next := slices.IndexFunc(left, func(i int) bool { return plainReady(r.Body[i], bound) })
		if next < 0 {
			return nil, false
		}
		if l := r.Body[left[next]]; l.Kind == 1 {
			bound = append(bound, plainNames(plainTerms(l))...)
		}
		way = append(way, left[next])
		left = slices.Delete(left, next, next+1)
	}
	return way, true
}
