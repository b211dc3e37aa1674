package join

import (
	"slices"
	"strconv"

	"inkling/api"
	"inkling/plan"
)

// noLiteral is the number by which plan is told that any literal may be first.
const noLiteral = -1

// questionOf is a rule as plan is asked about it: plan knows sizes by predicates, but of one predicate each positive may be looked for in another store, so each has a name of its own there.
func questionOf(r api.Rule) api.Rule {
	q := api.Rule{Head: r.Head, Body: slices.Clone(r.Body)}
	for number, l := range q.Body {
		if l.Kind == api.Positive {
			q.Body[number].Atom.Pred = nameOf(number)
		}
	}
	return q
}

func nameOf(number int) string { return "p" + strconv.Itoa(number) }

// order puts the walk's steps in order. Which order is good hangs on what the stores have, so plan is asked anew in each walk.
func (w *walk) order(k int) {
	first := noLiteral
	if k != noPositive {
		first = w.positives[k]
	}
	p, _ := plan.Make(w.question, w.sizes(first), first)
	for _, s := range p.Steps {
		w.steps = append(w.steps, w.step(s.Literal, s.Bound))
	}
}

// sizes tells plan how many tuples the atoms have. The first one has some, so that what stands behind it does not look as if it had none.
func (w *walk) sizes(first int) []api.Size {
	var all []api.Size
	for _, number := range w.positives {
		size := api.Size{Pred: nameOf(number), Rows: w.shelves[number].far}
		if number != first && w.hasChoice(first) {
			size.Rows, size.Distinct = w.count(number)
		}
		all = append(all, size)
	}
	return all
}

// hasChoice tells whether there are two atoms that plan holds against one another. Counting makes indexes, for which nobody should pay else.
func (w *walk) hasChoice(first int) bool {
	if first == noLiteral {
		return len(w.positives) > 1
	}
	return len(w.positives) > 2
}

// count is how many tuples of a positive have its constants, and how many unlike constants its other columns have. The constants have done their part then, so their columns have none.
func (w *walk) count(number int) (int, []int) {
	s := w.step(number, w.body[number].fixed)
	key, ok := w.key(&s)
	if !ok {
		return 0, nil
	}
	rows, _ := s.tuples.Count(s.bound, key, 0, s.far)
	distinct := make([]int, len(s.terms))
	// Of two atoms the second one is looked at alone, so that no choice hangs on what they share.
	if len(w.positives) > 2 {
		for _, column := range s.shared {
			distinct[column], _ = s.tuples.Distinct(column)
		}
	}
	return rows, distinct
}
