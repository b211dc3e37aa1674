package plan

import (
	"math"
	"slices"

	"inkling/api"
)

// noLiteral is the number of none.
const noLiteral = -1

func mayBeFirst(body []api.Literal, first int) bool {
	if first == noLiteral {
		return true
	}
	return 0 <= first && first < len(body) && body[first].Kind == api.Positive
}

// choose takes the literals of a safe rule, first the one that is asked for, if any, then always what looks best.
func choose(w walk, e estimate, first int) []api.Step {
	var steps []api.Step
	rows := rowsAtFirst
	next := first
	for range w.literals {
		if next == noLiteral {
			next = best(w, e, rows)
		}
		step := w.take(next)
		rows = e.behind(next, rows, step.Bound)
		steps = append(steps, step)
		next = noLiteral
	}
	return steps
}

// best is the first test that is ready, or else the first of the positive literals with the fewest rows behind them.
func best(w walk, e estimate, ahead float64) int {
	found, fewest := noLiteral, math.Inf(1)
	for number, l := range w.literals {
		if !w.may(number) {
			continue
		}
		if !l.positive {
			return number
		}
		if rows := e.behind(number, ahead, w.bound(number)); rows < fewest {
			found, fewest = number, rows
		}
	}
	return found
}

// cheapest takes the literals of a safe rule in the row that costs least, and tells what it costs. It goes through the rows in their order, so of several the first one stays.
func cheapest(w walk, e estimate) ([]api.Step, float64) {
	var found, steps []api.Step
	least := math.Inf(1)
	var goOn func(w walk, ahead, cost float64)
	goOn = func(w walk, ahead, cost float64) {
		if len(steps) == len(w.literals) {
			found, least = slices.Clone(steps), cost
			return
		}
	literals:
		for number := range w.literals {
			if !w.may(number) {
				continue literals
			}
			behind := e.behind(number, ahead, w.bound(number))
			// What comes behind costs nothing or more, so a row that is as dear already can't be better.
			if cost+behind >= least {
				continue literals
			}
			further := w.copy()
			steps = append(steps, further.take(number))
			goOn(further, behind, cost+behind)
			steps = steps[:len(steps)-1]
		}
	}
	goOn(w, rowsAtFirst, 0)
	return found, least
}
