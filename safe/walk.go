package safe

import (
	"iter"
	"strings"

	"inkling/api"
)

// inHead is the number of the literal that a rule's head counts as.
const inHead = -1

// isOfTheThree tells whether a literal's kind is one that says something.
func isOfTheThree(l api.Literal) bool {
	switch l.Kind {
	case api.Positive, api.Negative, api.Unlike:
		return true
	}
	return false
}

// terms are a literal's terms, in order; it has none, if its kind is none of the three.
func terms(l api.Literal) []api.Term {
	switch l.Kind {
	case api.Positive, api.Negative:
		return l.Atom.Args
	case api.Unlike:
		return []api.Term{l.Left, l.Right}
	}
	return nil
}

// variables tells the variables among terms, each as often as it stands there.
func variables(list []api.Term) iter.Seq[string] {
	return func(yield func(string) bool) {
		for _, term := range list {
			if term.Var && !yield(term.Text) {
				return
			}
		}
	}
}

// standing tells each place at which a variable of a rule stands, in order: its literal's number, and the variable.
func standing(r api.Rule) iter.Seq2[int, string] {
	return func(yield func(int, string) bool) {
		for name := range variables(r.Head.Args) {
			if !yield(inHead, name) {
				return
			}
		}
		for i, literal := range r.Body {
			for name := range variables(terms(literal)) {
				if !yield(i, name) {
					return
				}
			}
		}
	}
}

// binding tells, of a body's places, those that bind their variables.
func binding(body []api.Literal) iter.Seq2[int, string] {
	return func(yield func(int, string) bool) {
		for i, name := range standing(api.Rule{Body: body}) {
			if body[i].Kind == api.Positive && !yield(i, name) {
				return
			}
		}
	}
}

// once tells, of places, those at which a variable stands for the first time.
func once(places iter.Seq2[int, string]) iter.Seq2[int, string] {
	return func(yield func(int, string) bool) {
		met := names{}
		for i, name := range places {
			if met.put(name) && !yield(i, name) {
				return
			}
		}
	}
}

// loose tells a rule's loose variables, in order, each with the literal in which it first stands.
func loose(r api.Rule) iter.Seq2[int, string] {
	return func(yield func(int, string) bool) {
		bound := bindersOf(r.Body)
		for i, name := range once(standing(r)) {
			if _, there := bound[name]; !there && !yield(i, name) {
				return
			}
		}
	}
}

// namesOf are the variables that stand at places, in texts of their own.
func namesOf(places iter.Seq2[int, string]) []string {
	var list []string
	for _, name := range places {
		list = append(list, strings.Clone(name))
	}
	return list
}
