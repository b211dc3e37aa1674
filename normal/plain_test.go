package normal

import (
	"slices"
	"strconv"

	"inkling/api"
	"inkling/strata"
)

// A measure that goes by the document's words alone: no map, nothing that is looked for in a clever order.

func plainTerms(a, b api.Term) int {
	switch {
	case a == b:
		return 0
	case !a.Var && b.Var, a.Var == b.Var && a.Text < b.Text:
		return -1
	}
	return 1
}

func plainAtoms(a, b api.Atom) int {
	switch {
	case a.Pred < b.Pred, a.Pred == b.Pred && len(a.Args) < len(b.Args):
		return -1
	case a.Pred > b.Pred, len(a.Args) > len(b.Args):
		return 1
	}
	for i := range a.Args {
		if order := plainTerms(a.Args[i], b.Args[i]); order != 0 {
			return order
		}
	}
	return 0
}

func plainCompare(a, b api.Literal) int {
	switch {
	case a.Kind < b.Kind:
		return -1
	case a.Kind > b.Kind:
		return 1
	case plainAtoms(a.Atom, b.Atom) != 0:
		return plainAtoms(a.Atom, b.Atom)
	case a.Left != b.Left:
		return plainTerms(a.Left, b.Left)
	}
	return plainTerms(a.Right, b.Right)
}

func plainCompareRules(a, b api.Rule) int {
	switch {
	case plainAtoms(a.Head, b.Head) != 0:
		return plainAtoms(a.Head, b.Head)
	case len(a.Body) < len(b.Body):
		return -1
	case len(a.Body) > len(b.Body):
		return 1
	}
	for i := range a.Body {
		if order := plainCompare(a.Body[i], b.Body[i]); order != 0 {
			return order
		}
	}
	return 0
}

// places are pointers to all terms of a rule, in the order in which they stand there.
func places(r *api.Rule) []*api.Term {
	var all []*api.Term
	for i := range r.Head.Args {
		all = append(all, &r.Head.Args[i])
	}
	for i := range r.Body {
		for k := range r.Body[i].Atom.Args {
			all = append(all, &r.Body[i].Atom.Args[k])
		}
		all = append(all, &r.Body[i].Left, &r.Body[i].Right)
	}
	return all
}

func plainVars(r api.Rule) []string {
	var names []string
	for _, term := range places(&r) {
		if term.Var && !slices.Contains(names, term.Text) {
			names = append(names, term.Text)
		}
	}
	return names
}

func plainPut(r api.Rule, names []string, list []api.Term) api.Rule {
	q := copyRule(r)
	for _, term := range places(&q) {
		if i := slices.Index(names, term.Text); term.Var && i >= 0 && i < len(list) {
			*term = list[i]
		}
	}
	return q
}

func plainRename(r api.Rule) api.Rule {
	var list []api.Term
	for i := range plainVars(r) {
		list = append(list, variable("V"+strconv.Itoa(i)))
	}
	return plainPut(r, plainVars(r), list)
}

// plainBody puts each literal ahead of the first one that is greater.
func plainBody(r api.Rule) api.Rule {
	q := api.Rule{Head: copyAtom(r.Head)}
	for _, literal := range copyRule(r).Body {
		if literal.Kind == api.Unlike && plainTerms(literal.Right, literal.Left) < 0 {
			literal.Left, literal.Right = literal.Right, literal.Left
		}
		i := 0
		for i < len(q.Body) && plainCompare(q.Body[i], literal) < 0 {
			i++
		}
		if i == len(q.Body) || plainCompare(q.Body[i], literal) > 0 {
			q.Body = slices.Insert(q.Body, i, literal)
		}
	}
	return q
}

func plainProgram(p api.Program) api.Program {
	q := copyProgram(p)
	q.Rules = nil
	for _, r := range p.Rules {
		r = plainRename(plainBody(r))
		i := 0
		for i < len(q.Rules) && plainCompareRules(q.Rules[i], r) < 0 {
			i++
		}
		if i == len(q.Rules) || plainCompareRules(q.Rules[i], r) > 0 {
			q.Rules = slices.Insert(q.Rules, i, r)
		}
	}
	return q
}

// eachChoice goes through all lists of so many things of some, until it is told that it is enough.
func eachChoice[T any](count int, of []T, twice bool, enough func([]T) bool) bool {
	var chosen []T
	var used []int
	var next func() bool
	next = func() bool {
		if len(chosen) == count {
			return enough(chosen)
		}
		for i, thing := range of {
			if !twice && slices.Contains(used, i) {
				continue
			}
			chosen, used = append(chosen, thing), append(used, i)
			if next() {
				return true
			}
			chosen, used = chosen[:len(chosen)-1], used[:len(used)-1]
		}
		return false
	}
	return next()
}

// plainAlike tries all ways to put the variables of the one rule in the places of the other's.
func plainAlike(a, b api.Rule) bool {
	names, others := plainVars(a), plainVars(b)
	if len(names) != len(others) {
		return false
	}
	return eachChoice(len(names), others, false, func(chosen []string) bool {
		var list []api.Term
		for _, name := range chosen {
			list = append(list, variable(name))
		}
		return plainCompareRules(plainBody(plainPut(a, names, list)), plainBody(b)) == 0
	})
}

// plainCovers tries all ways to put terms of b in the places of a's variables.
func plainCovers(a, b api.Rule) bool {
	var of []api.Term
	for _, term := range places(&b) {
		if !slices.Contains(of, *term) {
			of = append(of, *term)
		}
	}
	names := plainVars(a)
	return eachChoice(len(names), of, true, func(chosen []api.Term) bool { return isWithin(plainPut(a, names, chosen), b) })
}

// isWithin tells whether two rules have one head, and each literal of the one is one of the other's.
func isWithin(a, b api.Rule) bool {
	if plainAtoms(a.Head, b.Head) != 0 {
		return false
	}
	for _, literal := range a.Body {
		if !slices.ContainsFunc(b.Body, func(other api.Literal) bool { return sayTheSame(literal, other) }) {
			return false
		}
	}
	return true
}

func sayTheSame(a, b api.Literal) bool {
	other := b
	other.Left, other.Right = b.Right, b.Left
	return plainCompare(a, b) == 0 || a.Kind == api.Unlike && plainCompare(a, other) == 0
}

func plainThin(p api.Program, covers func(a, b api.Rule) bool) api.Program {
	q := copyProgram(p)
	for i := len(q.Rules) - 1; i >= 0; i-- {
		for k, other := range q.Rules {
			if k != i && covers(other, q.Rules[i]) {
				q.Rules = slices.Delete(q.Rules, i, i+1)
				break
			}
		}
	}
	return q
}

// steadyCovers fits in a's literals one behind the other, for rules of too many variables to try all ways.
func steadyCovers(a, b api.Rule) bool {
	var names []string
	var list []api.Term
	fits := func(terms, others []api.Term) bool {
		for i, term := range terms {
			k := slices.Index(names, term.Text)
			switch {
			case !term.Var && term != others[i], term.Var && k >= 0 && list[k] != others[i]:
				return false
			case term.Var && k < 0:
				names, list = append(names, term.Text), append(list, others[i])
			}
		}
		return true
	}
	var next func(i int) bool
	next = func(i int) bool {
		if i == len(a.Body) {
			return true
		}
		height, l := len(names), a.Body[i]
		for _, other := range b.Body {
			for way := range 2 {
				if l.Kind != other.Kind || l.Atom.Pred != other.Atom.Pred || len(l.Atom.Args) != len(other.Atom.Args) || way == 1 && l.Kind != api.Unlike {
					continue
				}
				ends := []api.Term{other.Left, other.Right}
				if way == 1 {
					slices.Reverse(ends)
				}
				if fits(append(slices.Clone(l.Atom.Args), l.Left, l.Right), append(slices.Clone(other.Atom.Args), ends...)) && next(i+1) {
					return true
				}
				names, list = names[:height], list[:height]
			}
		}
		return false
	}
	return a.Head.Pred == b.Head.Pred && len(a.Head.Args) == len(b.Head.Args) && fits(a.Head.Args, b.Head.Args) && next(0)
}

// plainModel is what follows from a good program's rules and facts, as facts: stratum by stratum, by all instances with these constants, until nothing is new.
func plainModel(p api.Program, facts []api.Fact, constants []string) []api.Fact {
	model := slices.Clone(facts)
	var of []api.Term
	for _, text := range constants {
		of = append(of, constant(text))
	}
	put := func(a api.Atom) bool {
		if isIn(model, a) {
			return false
		}
		model = append(model, factOf(a))
		return true
	}
	for _, r := range p.Rules {
		if len(r.Body) == 0 {
			put(r.Head)
		}
	}
	parts, _ := strata.Parts(p)
	for _, part := range parts {
		for more := true; more; {
			more = false
			for _, i := range part {
				names := plainVars(p.Rules[i])
				eachChoice(len(names), of, true, func(chosen []api.Term) bool {
					instance := plainPut(p.Rules[i], names, chosen)
					more = holds(model, instance.Body) && put(instance.Head) || more
					return false
				})
			}
		}
	}
	return model
}

func factOf(a api.Atom) api.Fact {
	fact := api.Fact{Pred: a.Pred}
	for _, term := range a.Args {
		fact.Tuple = append(fact.Tuple, term.Text)
	}
	return fact
}

func isIn(model []api.Fact, a api.Atom) bool {
	return slices.ContainsFunc(model, func(fact api.Fact) bool {
		return fact.Pred == a.Pred && slices.Equal(fact.Tuple, factOf(a).Tuple)
	})
}

func holds(model []api.Fact, body []api.Literal) bool {
	for _, l := range body {
		if l.Kind == api.Unlike && l.Left == l.Right || l.Kind != api.Unlike && isIn(model, l.Atom) != (l.Kind == api.Positive) {
			return false
		}
	}
	return true
}
