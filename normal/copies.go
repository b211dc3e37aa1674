package normal

import (
	"iter"
	"strings"

	"inkling/api"
)

// numbers numbers things from 0 on, in the order in which they come.
type numbers[T comparable] map[T]int

func (n numbers[T]) of(thing T) int {
	number, met := n[thing]
	if !met {
		number = len(n)
		n[thing] = number
	}
	return number
}

// firstPlaces tells where each name first stands.
func firstPlaces(names []string) map[string]int {
	places := map[string]int{}
	for i, name := range names {
		if _, met := places[name]; !met {
			places[name] = i
		}
	}
	return places
}

// terms tells all terms of a rule, in the order in which they stand there.
func terms(r api.Rule) iter.Seq[api.Term] {
	return func(yield func(api.Term) bool) {
		for _, piece := range pieces(r) {
			for _, term := range piece.terms {
				if !yield(term) {
					return
				}
			}
		}
	}
}

func asItIs(variable api.Term) api.Term { return variable }

// changed is a copy of a rule in which each variable has the term that put tells of it; put is asked in the order in which the variables stand there.
func changed(r api.Rule, put func(variable api.Term) api.Term) api.Rule {
	head := changedAtom(r.Head, put)
	var body []api.Literal
	for _, literal := range r.Body {
		atom := changedAtom(literal.Atom, put)
		left := changedTerm(literal.Left, put)
		body = append(body, api.Literal{Kind: literal.Kind, Atom: atom, Left: left, Right: changedTerm(literal.Right, put)})
	}
	return api.Rule{Head: head, Body: body}
}

func changedAtom(a api.Atom, put func(variable api.Term) api.Term) api.Atom {
	var args []api.Term
	for _, term := range a.Args {
		args = append(args, changedTerm(term, put))
	}
	return api.Atom{Pred: strings.Clone(a.Pred), Args: args}
}

func changedTerm(t api.Term, put func(variable api.Term) api.Term) api.Term {
	if t.Var {
		t = put(t)
	}
	return api.Term{Var: t.Var, Text: strings.Clone(t.Text)}
}

// withRules is a program with copies of another one's inputs and outputs, and these rules.
func withRules(p api.Program, rules []api.Rule) api.Program {
	q := api.Program{Rules: rules}
	for _, input := range p.Inputs {
		q.Inputs = append(q.Inputs, api.Input{Pred: strings.Clone(input.Pred), Arity: input.Arity, File: strings.Clone(input.File)})
	}
	for _, output := range p.Outputs {
		q.Outputs = append(q.Outputs, api.Output{Pred: strings.Clone(output.Pred), Arity: output.Arity})
	}
	return q
}
