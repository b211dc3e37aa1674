package join

import (
	"strings"

	"inkling/api"
)

// copyRule is a rule in memory of its own.
func copyRule(r api.Rule) api.Rule {
	c := api.Rule{Head: copyAtom(r.Head)}
	for _, l := range r.Body {
		l.Atom = copyAtom(l.Atom)
		l.Left, l.Right = copyTerm(l.Left), copyTerm(l.Right)
		c.Body = append(c.Body, l)
	}
	return c
}

func copyAtom(a api.Atom) api.Atom {
	c := api.Atom{Pred: strings.Clone(a.Pred)}
	for _, term := range a.Args {
		c.Args = append(c.Args, copyTerm(term))
	}
	return c
}

func copyTerm(t api.Term) api.Term {
	t.Text = strings.Clone(t.Text)
	return t
}
