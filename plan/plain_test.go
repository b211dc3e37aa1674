package plan

import (
	"math"
	"math/big"
	"slices"

	"inkling/api"
	"inkling/print"
)

// What stands here goes by the document's words alone, one after the other and without a map, and each operation on numbers is done exactly and then rounded: a measure for what the package answers.

// A rule is written just if it is in form.
func plainFormed(r api.Rule) bool {
	_, e := print.Rule(r)
	return e == api.OK
}

func plainTerms(l api.Literal) []api.Term {
	if l.Kind == api.Unlike {
		return []api.Term{l.Left, l.Right}
	}
	return l.Atom.Args
}

// plainNames are the variables of terms, each once.
func plainNames(terms []api.Term) []string {
	var names []string
	for _, term := range terms {
		if term.Var && !slices.Contains(names, term.Text) {
			names = append(names, term.Text)
		}
	}
	return names
}

// plainKnown are the variables of the positive ones among some literals of a rule.
func plainKnown(r api.Rule, ahead []int) []string {
	var terms []api.Term
	for _, i := range ahead {
		if l := r.Body[i]; l.Kind == api.Positive {
			terms = append(terms, plainTerms(l)...)
		}
	}
	return plainNames(terms)
}

func plainSafe(r api.Rule) bool {
	all := slices.Clone(r.Head.Args)
	for _, l := range r.Body {
		all = append(all, plainTerms(l)...)
	}
	known := plainKnown(r, numbersUpTo(len(r.Body)))
	return !slices.ContainsFunc(plainNames(all), func(name string) bool { return !slices.Contains(known, name) })
}

func numbersUpTo(count int) []int {
	numbers := make([]int, count)
	for i := range numbers {
		numbers[i] = i
	}
	return numbers
}

func plainReady(r api.Rule, ahead []int, i int) bool {
	known := plainKnown(r, ahead)
	return r.Body[i].Kind == api.Positive || !slices.ContainsFunc(plainNames(plainTerms(r.Body[i])), func(name string) bool { return !slices.Contains(known, name) })
}

func plainReadyOrder(r api.Rule, order []int) bool {
	for turn, i := range order {
		if !plainReady(r, order[:turn], i) {
			return false
		}
	}
	return true
}

// plainStep is the step of a literal behind others.
func plainStep(r api.Rule, ahead []int, i int) api.Step {
	known := plainKnown(r, ahead)
	step := api.Step{Literal: i}
	for column, term := range r.Body[i].Atom.Args {
		if !term.Var || slices.Contains(known, term.Text) {
			step.Bound = append(step.Bound, column)
		}
	}
	for _, name := range plainNames(plainTerms(r.Body[i])) {
		if r.Body[i].Kind == api.Positive && !slices.Contains(known, name) {
			step.New = append(step.New, name)
		}
	}
	return step
}

func plainPlan(r api.Rule, order []int) api.Plan {
	p := api.Plan{Rule: r}
	for turn, i := range order {
		p.Steps = append(p.Steps, plainStep(r, order[:turn], i))
	}
	return p
}

func plainRight(p api.Plan) bool {
	if !plainFormed(p.Rule) {
		return false
	}
	var order []int
	for _, step := range p.Steps {
		order = append(order, step.Literal)
	}
	if !slices.Equal(slices.Sorted(slices.Values(order)), numbersUpTo(len(p.Rule.Body))) {
		return false
	}
	return plainReadyOrder(p.Rule, order) && same(p, plainPlan(p.Rule, order))
}

func plainUsable(l []api.Size) bool {
	for _, size := range l {
		for _, number := range append([]int{size.Rows}, size.Distinct...) {
			if number < 0 || number > 2147483647 {
				return false
			}
		}
	}
	return true
}

func plainSize(l []api.Size, pred string) api.Size {
	for _, size := range l {
		if size.Pred == pred {
			return size
		}
	}
	return api.Size{}
}

func fraction(x float64) *big.Rat { return new(big.Rat).SetFloat64(x) }

func rounded(x *big.Rat) float64 {
	f, _ := x.Float64()
	return f
}

func plainTimes(x float64, y int) float64 {
	return rounded(new(big.Rat).Mul(fraction(x), fraction(float64(y))))
}

func plainOver(x float64, y int) float64 {
	return rounded(new(big.Rat).Quo(fraction(x), fraction(float64(y))))
}

func plainSum(rows []float64) float64 {
	sum := 0.0
	for _, x := range rows {
		sum = rounded(new(big.Rat).Add(fraction(sum), fraction(x)))
	}
	return sum
}

// plainBehind is the rows behind a step.
func plainBehind(r api.Rule, l []api.Size, step api.Step, ahead float64) float64 {
	literal := r.Body[step.Literal]
	switch literal.Kind {
	case api.Negative:
		return plainOver(ahead, 2)
	case api.Unlike:
		return plainOver(plainTimes(ahead, 9), 10)
	}
	size := plainSize(l, literal.Atom.Pred)
	rows := plainTimes(ahead, size.Rows)
	if rows > 1e300 {
		rows = 1e300
	}
	for _, column := range step.Bound {
		worth := 1
		if column < len(size.Distinct) && size.Distinct[column] != 0 {
			worth = size.Distinct[column]
		}
		rows = plainOver(rows, worth)
	}
	return rows
}

func plainRows(p api.Plan, l []api.Size) []float64 {
	var all []float64
	ahead := 1.0
	for _, step := range p.Steps {
		ahead = plainBehind(p.Rule, l, step, ahead)
		all = append(all, ahead)
	}
	return all
}

// plainMake is the order that Make goes by, or its error.
func plainMake(r api.Rule, l []api.Size, first int) ([]int, api.Errno) {
	mayBeFirst := first == -1 || first >= 0 && first < len(r.Body) && r.Body[first].Kind == api.Positive
	if !plainFormed(r) || !plainUsable(l) || !mayBeFirst {
		return nil, api.ErrArg
	}
	if !plainSafe(r) {
		return nil, api.ErrUnsafe
	}
	var order []int
	if first != -1 {
		order = append(order, first)
	}
	for len(order) < len(r.Body) {
		order = append(order, plainNext(r, l, order))
	}
	return order, api.OK
}

// plainNext is the literal that Make takes behind those of an order.
func plainNext(r api.Rule, l []api.Size, order []int) int {
	left := slices.DeleteFunc(numbersUpTo(len(r.Body)), func(i int) bool { return slices.Contains(order, i) })
	for _, i := range left {
		if r.Body[i].Kind != api.Positive && plainReady(r, order, i) {
			return i
		}
	}
	ahead := 1.0
	if rows := plainRows(plainPlan(r, order), l); len(rows) > 0 {
		ahead = rows[len(rows)-1]
	}
	next, fewest := -1, math.Inf(1)
	for _, i := range left {
		if r.Body[i].Kind == api.Positive {
			if behind := plainBehind(r, l, plainStep(r, order, i), ahead); behind < fewest {
				next, fewest = i, behind
			}
		}
	}
	return next
}

// orders tells all orders of the numbers up to a count, the least row first.
func orders(count int) func(yield func([]int) bool) {
	return func(yield func([]int) bool) {
		var grow func(order []int) bool
		grow = func(order []int) bool {
			if len(order) == count {
				return yield(slices.Clone(order))
			}
			for i := range count {
				if !slices.Contains(order, i) && !grow(append(slices.Clone(order), i)) {
					return false
				}
			}
			return true
		}
		grow(nil)
	}
}

// plainLeast goes through all orders.
func plainLeast(r api.Rule, l []api.Size) ([]int, float64, api.Errno) {
	if !plainFormed(r) || !plainUsable(l) || len(r.Body) > 6 {
		return nil, 0, api.ErrArg
	}
	if !plainSafe(r) {
		return nil, 0, api.ErrUnsafe
	}
	var best []int
	least := math.Inf(1)
	for order := range orders(len(r.Body)) {
		if !plainReadyOrder(r, order) {
			continue
		}
		if cost := plainSum(plainRows(plainPlan(r, order), l)); cost < least {
			best, least = order, cost
		}
	}
	return best, least, api.OK
}

func plainSizes(l []api.Relation) []api.Size {
	var all []api.Size
	for _, relation := range l {
		size := api.Size{Pred: relation.Pred, Rows: len(relation.Tuples)}
		for column := range append(slices.Clone(relation.Tuples), nil)[0] {
			var texts []string
			for _, tuple := range relation.Tuples {
				if column < len(tuple) && !slices.Contains(texts, tuple[column]) {
					texts = append(texts, tuple[column])
				}
			}
			size.Distinct = append(size.Distinct, len(texts))
		}
		all = append(all, size)
	}
	return all
}
