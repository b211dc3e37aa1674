package plan

import (
	"slices"
	"strings"

	"inkling/api"
)

func sameStep(a, b api.Step) bool {
	return a.Literal == b.Literal && slices.Equal(a.Bound, b.Bound) && slices.Equal(a.New, b.New)
}

// copyRule is a rule in memory of its own.
func copyRule(r api.Rule) api.Rule {
	var body []api.Literal
	for _, l := range r.Body {
		body = append(body, api.Literal{Kind: l.Kind, Atom: copyAtom(l.Atom), Left: copyTerm(l.Left), Right: copyTerm(l.Right)})
	}
	return api.Rule{Head: copyAtom(r.Head), Body: body}
}

func copyAtom(a api.Atom) api.Atom {
	var args []api.Term
	for _, term := range a.Args {
		args = append(args, copyTerm(term))
	}
	return api.Atom{Pred: strings.Clone(a.Pred), Args: args}
}

func copyTerm(t api.Term) api.Term { return api.Term{Var: t.Var, Text: strings.Clone(t.Text)} }
