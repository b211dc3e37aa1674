package plan

import (
	"slices"

	"inkling/api"
	"inkling/safe"
)

// aConstant stands in a column where a variable's number would.
const aConstant = -1

// literal is a literal of a body, its variables by their numbers.
type literal struct {
	positive  bool
	columns   []int // of an atom: the variable of each column, or aConstant
	variables []int // each once, in the order in which they first stand there
}

// walk is how far a body in form is gone through.
type walk struct {
	literals []literal
	names    []string // of the variables, by their numbers
	known    []bool   // the variables, by their numbers
	taken    []bool   // the literals, by their numbers
}

func begin(body []api.Literal) walk {
	names := safe.Vars(api.Rule{Body: body})
	numbers := map[string]int{}
	for i, name := range names {
		numbers[name] = i
	}
	w := walk{names: names, known: make([]bool, len(names)), taken: make([]bool, len(body))}
	for _, l := range body {
		w.literals = append(w.literals, literalOf(l, numbers))
	}
	return w
}

func literalOf(l api.Literal, numbers map[string]int) literal {
	numbered := literal{positive: l.Kind == api.Positive}
	for _, term := range l.Atom.Args {
		column := aConstant
		if term.Var {
			column = numbers[term.Text]
		}
		numbered.columns = append(numbered.columns, column)
	}
	for _, name := range safe.Vars(api.Rule{Body: []api.Literal{l}}) {
		numbered.variables = append(numbered.variables, numbers[name])
	}
	return numbered
}

// may tells whether a literal may be taken next: there is one of that number, it is left, and it is ready.
func (w walk) may(number int) bool {
	return 0 <= number && number < len(w.literals) && !w.taken[number] && w.ready(w.literals[number])
}

func (w walk) ready(l literal) bool {
	return l.positive || !slices.ContainsFunc(l.variables, w.unknown)
}

func (w walk) unknown(variable int) bool { return !w.known[variable] }

// bound are the columns of a literal that are known ahead of it.
func (w walk) bound(number int) []int {
	var columns []int
	for column, variable := range w.literals[number].columns {
		if variable == aConstant || w.known[variable] {
			columns = append(columns, column)
		}
	}
	return columns
}

// take takes a literal, and tells the step that this is.
func (w walk) take(number int) api.Step {
	step := api.Step{Literal: number, Bound: w.bound(number)}
	for _, variable := range w.literals[number].variables {
		if w.unknown(variable) {
			w.known[variable] = true
			step.New = append(step.New, w.names[variable])
		}
	}
	w.taken[number] = true
	return step
}

// copy is a walk that has come as far, and goes on apart.
func (w walk) copy() walk {
	w.known, w.taken = slices.Clone(w.known), slices.Clone(w.taken)
	return w
}
