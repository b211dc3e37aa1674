package plan

import "inkling/api"

const (
	rowsAtFirst = 1.0
	// However many literals there are, rows stay numbers that can be compared.
	mostRows = 1e300
)

// effect tells the rows behind a literal, from those ahead of it, its predicate's size and the columns of it that are bound.
type effect func(ahead float64, size api.Size, bound []int) float64

// effects has what each kind of literal does to the rows, at the kind's own number.
func effects() [api.Unlike + 1]effect {
	return [api.Unlike + 1]effect{
		api.Positive: joined,
		api.Negative: halved,
		api.Unlike:   lessATenth,
	}
}

// Where a number goes on into another operation it is turned into a float64 of its own first: else a machine may join the two and round once.

func joined(ahead float64, size api.Size, bound []int) float64 {
	rows := min(float64(ahead*float64(size.Rows)), mostRows)
	for _, column := range bound {
		rows = float64(rows / worth(size, column))
	}
	return rows
}

func halved(ahead float64, _ api.Size, _ []int) float64 { return ahead / 2 }

func lessATenth(ahead float64, _ api.Size, _ []int) float64 { return float64(ahead*9) / 10 }

// worth is what a column's being known divides the rows by.
func worth(size api.Size, column int) float64 {
	if column >= len(size.Distinct) || size.Distinct[column] == 0 {
		return 1
	}
	return float64(size.Distinct[column])
}

// estimate reckons the rows behind the literals of a body.
type estimate struct {
	body    []api.Literal
	sizes   map[string]api.Size
	effects [api.Unlike + 1]effect
}

func estimateOf(body []api.Literal, sizes []api.Size) estimate {
	e := estimate{body: body, sizes: map[string]api.Size{}, effects: effects()}
	for _, size := range sizes {
		if _, before := e.sizes[size.Pred]; !before {
			e.sizes[size.Pred] = size
		}
	}
	return e
}

// behind is the rows behind a literal, from those ahead of it and its bound columns.
func (e estimate) behind(number int, ahead float64, bound []int) float64 {
	literal := e.body[number]
	return float64(e.effects[literal.Kind](ahead, e.sizes[literal.Atom.Pred], bound))
}
