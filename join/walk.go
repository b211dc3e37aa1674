package join

import (
	"iter"
	"slices"

	"inkling/api"
)

// noPositive is the number of none: all positives stand behind it.
const noPositive = -1

// stores are those in which a walk looks: for the positive number k in delta, for those ahead of it in old, for those behind it in all, for what negative literals deny in not.
type stores struct {
	k                    int
	old, delta, all, not *Store
}

func (s stores) of(positive int) *Store {
	switch {
	case positive < s.k:
		return s.old
	case positive == s.k:
		return s.delta
	}
	return s.all
}

// walk is one turn through a rule's matches.
type walk struct {
	*Join
	row     []value // the variables' places are right as far as the steps have come
	shelves []shelf // of the body's literals, as they are when the walk begins
	steps   []step
}

// step is a literal as a walk comes to it.
type step struct {
	literal
	shelf
	bound []int // the columns that are known ahead of it
	open  []int // of a positive one the others
}

// over begins a walk anew each time that it is gone over.
func (j *Join) over(s stores) iter.Seq[api.Match] {
	return func(yield func(api.Match) bool) {
		if !j.made() {
			return
		}
		w := &walk{Join: j, row: j.row(), shelves: j.shelves(s)}
		if w.mayMatch() {
			w.order(s.k)
			w.tell(yield)
		}
	}
}

func (j *Join) shelves(s stores) []shelf {
	all := make([]shelf, len(j.body))
	for positive, number := range j.positives {
		all[number] = s.of(positive).shelf(j.body[number].kind)
	}
	for number, l := range j.body {
		if l.says == api.Negative {
			all[number] = s.not.shelf(l.kind)
		}
	}
	return all
}

// mayMatch is false, if a positive has nowhere to be found. Most walks over what a round added are told so at once.
func (w *walk) mayMatch() bool {
	return !slices.ContainsFunc(w.positives, func(number int) bool { return w.shelves[number].far == 0 })
}

func (w *walk) step(number int, bound []int) step {
	s := step{literal: w.body[number], shelf: w.shelves[number], bound: bound}
	if s.says != api.Positive {
		return s
	}
	for column := range s.terms {
		if !slices.Contains(bound, column) {
			s.open = append(s.open, column)
		}
	}
	return s
}

// tell goes through the steps, one within the other, and behind the last one tells a match.
func (w *walk) tell(yield func(api.Match) bool) {
	var goOn func(number int) bool
	goOn = func(number int) bool {
		if number == len(w.steps) {
			return yield(w.match())
		}
		for range w.ways(&w.steps[number]) {
			if !goOn(number + 1) {
				return false
			}
		}
		return true
	}
	goOn(0)
}

// ways has a turn for each way in which a step holds, with what is known ahead of it; what it makes known stands in the row in that turn.
func (w *walk) ways(s *step) func(func() bool) {
	return func(yield func() bool) {
		if len(s.open) == 0 {
			if w.holds(s) {
				yield()
			}
			return
		}
		key, ok := w.key(s)
		if !ok {
			return
		}
	tuples:
		for _, numbers := range s.tuples.Match(s.bound, key, 0, s.far) {
			for _, column := range s.open {
				place := s.terms[column]
				if first := slices.Index(s.terms, place); numbers[first] != numbers[column] {
					continue tuples
				}
				w.row[place] = value{s.numbering, numbers[column]}
			}
			if !yield() {
				return
			}
		}
	}
}

// holds is about a step of which all terms are known.
func (w *walk) holds(s *step) bool {
	if s.says == api.Unlike {
		return !w.row[s.terms[0]].same(w.row[s.terms[1]])
	}
	key, ok := w.key(s)
	return (ok && s.has(key)) == (s.says == api.Positive)
}

// key is what stands in a step's bound columns, in the numbers of its store; false, if that has no such constant.
func (w *walk) key(s *step) ([]int, bool) {
	key := make([]int, len(s.bound))
	for i, column := range s.bound {
		number, ok := w.row[s.terms[column]].in(s.numbering)
		if !ok {
			return nil, false
		}
		key[i] = number
	}
	return key, true
}

func (w *walk) match() api.Match {
	m := api.Match{Head: make([]string, len(w.head)), Values: make([]string, len(w.vars))}
	for i, place := range w.head {
		m.Head[i] = w.row[place].text()
	}
	for place := range w.vars {
		m.Values[place] = w.row[place].text()
	}
	return m
}
