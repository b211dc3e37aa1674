package join

import (
	"inkling/api"
	"inkling/safe"
)

// Join: a rule whose terms are places in a row of values: first its variables', in their order, then its constants', by their numbers in the rule's own numbering, which is nil in a join that no call here made. Once it is made nothing writes to it, so any number may walk by it at once.
type Join struct {
	numbering
	rule      api.Rule
	vars      []string
	head      []int
	body      []literal
	positives []int    // their numbers in the body
	question  api.Rule // what plan is asked about
}

// literal is a literal of a rule's body.
type literal struct {
	says   api.LitKind
	kind   kind
	terms  []int // their places in the row
	fixed  []int // of a positive one the columns of constants
	shared []int // and those of variables that stand in another positive one, too
}

func (j *Join) made() bool { return j != nil && j.table != nil }

// joinOf keeps the rule, which is safe.
func joinOf(r api.Rule) *Join {
	j := &Join{numbering: newNumbering(), rule: r, vars: safe.Vars(r), question: questionOf(r)}
	places := map[string]int{}
	for place, name := range j.vars {
		places[name] = place
	}
	inRow := func(terms []api.Term) []int {
		all := make([]int, len(terms))
		for i, term := range terms {
			if term.Var {
				all[i] = places[term.Text]
				continue
			}
			number, _ := j.table.Put(term.Text)
			all[i] = len(j.vars) + number
		}
		return all
	}
	j.head = inRow(r.Head.Args)
	for number, l := range r.Body {
		if l.Kind == api.Positive {
			j.positives = append(j.positives, number)
		}
		j.body = append(j.body, literal{says: l.Kind, kind: kind{l.Atom.Pred, len(l.Atom.Args)}, terms: inRow(termsOf(l))})
	}
	j.markColumns()
	return j
}

func termsOf(l api.Literal) []api.Term {
	if l.Kind == api.Unlike {
		return []api.Term{l.Left, l.Right}
	}
	return l.Atom.Args
}

// markColumns finds the positives' columns that are known ahead of all steps, and those that may be known by another one.
func (j *Join) markColumns() {
	const unmet = -1
	single := make([]int, len(j.vars)) // the one positive in which a variable was met
	for place := range single {
		single[place] = unmet
	}
	shared := make([]bool, len(j.vars))
	for _, number := range j.positives {
		for _, place := range j.body[number].terms {
			if j.isConstant(place) {
				continue
			}
			shared[place] = shared[place] || single[place] != unmet && single[place] != number
			single[place] = number
		}
	}
	for _, number := range j.positives {
		l := &j.body[number]
		for column, place := range l.terms {
			switch {
			case j.isConstant(place):
				l.fixed = append(l.fixed, column)
			case shared[place]:
				l.shared = append(l.shared, column)
			}
		}
	}
}

// isConstant tells whether a place in the row is a constant's.
func (j *Join) isConstant(place int) bool { return place >= len(j.vars) }

// row is a row in which no variable is known.
func (j *Join) row() []value {
	row := make([]value, len(j.vars), len(j.vars)+j.table.Len())
	for number := range j.table.Len() {
		row = append(row, value{j.numbering, number})
	}
	return row
}
