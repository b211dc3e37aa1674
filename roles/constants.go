package roles

import (
	"slices"
	"strings"

	"inkling/api"
)

// texts are unlike texts, in the order in which they first came.
type texts struct {
	list []string
	seen map[string]struct{}
}

func (t *texts) put(list ...string) {
	for _, text := range list {
		if _, there := t.seen[text]; !there {
			t.seen[text] = struct{}{}
			t.list = append(t.list, strings.Clone(text))
		}
	}
}

// putConstants puts those of the terms that are constants.
func (t *texts) putConstants(terms ...api.Term) {
	for _, term := range terms {
		if !term.Var {
			t.put(term.Text)
		}
	}
}

// constantsOf are the constants of a program in form and of relations, rising.
func constantsOf(p api.Program, l []api.Relation) []string {
	t := texts{seen: map[string]struct{}{}}
	for _, rule := range p.Rules {
		for atom := range atoms(rule) {
			t.putConstants(atom.Args...)
		}
		for _, literal := range rule.Body {
			// Of other kinds both are zero, which looks like the empty constant.
			if literal.Kind == api.Unlike {
				t.putConstants(literal.Left, literal.Right)
			}
		}
	}
	for _, relation := range l {
		for _, tuple := range relation.Tuples {
			t.put(tuple...)
		}
	}
	slices.Sort(t.list)
	return t.list
}
