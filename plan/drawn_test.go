package plan

import (
	"math"
	"math/rand"

	"inkling/api"
)

// drawer draws rules over so many variables, and sizes. One variable of so many is bound by nothing, one literal of so many is not in form, one number of so many may not be used; none at 0.
type drawer struct {
	r                          *rand.Rand
	names                      int
	looseness, unformed, wrong int
}

func (d drawer) oneIn(count int) bool { return count > 0 && d.r.Intn(count) == 0 }

func (d drawer) pred() string { return string(rune('p' + d.r.Intn(5))) }

func (d drawer) term() api.Term {
	text := string(rune('A' + d.r.Intn(d.names)))
	if d.oneIn(d.looseness) {
		text = "Loose"
	}
	return api.Term{Var: d.r.Intn(4) > 0, Text: text}
}

func (d drawer) atom() api.Atom {
	a := atom(d.pred())
	for range d.r.Intn(4) {
		a.Args = append(a.Args, d.term())
	}
	return a
}

func (d drawer) literal() api.Literal {
	var l api.Literal
	switch d.r.Intn(5) {
	case 0:
		l = unlike(d.term(), d.term())
	case 1:
		l = negative(d.atom())
	default:
		l = positive(d.atom())
	}
	switch {
	case d.oneIn(d.unformed):
		l.Kind = api.LitKind(d.r.Intn(6) - 1)
	case d.oneIn(d.unformed):
		l.Atom.Pred = []string{"", "not", "X"}[d.r.Intn(3)]
	}
	return l
}

func (d drawer) rule(most int) api.Rule {
	r := rule(d.atom())
	for range d.r.Intn(most) {
		r.Body = append(r.Body, d.literal())
	}
	// Some more literal binds what is left, so that most rules are safe.
	all := positive(atom(d.pred()))
	for i := range d.names {
		all.Atom.Args = append(all.Atom.Args, variable(string(rune('A'+i))))
	}
	r.Body = append(r.Body, all)
	d.r.Shuffle(len(r.Body), func(i, k int) { r.Body[i], r.Body[k] = r.Body[k], r.Body[i] })
	return r
}

// number is a count of any magnitude.
func (d drawer) number() int {
	if d.oneIn(d.wrong) {
		return []int{-1, math.MaxInt32 + 1, math.MinInt, math.MaxInt}[d.r.Intn(4)]
	}
	switch d.r.Intn(4) {
	case 0:
		return d.r.Intn(3)
	case 1:
		return math.MaxInt32 - d.r.Intn(3)
	}
	return d.r.Intn(math.MaxInt32) >> d.r.Intn(31)
}

func (d drawer) sizes() []api.Size {
	var all []api.Size
	for range d.r.Intn(9) {
		one := size(d.pred(), d.number())
		for range d.r.Intn(4) {
			one.Distinct = append(one.Distinct, d.number())
		}
		all = append(all, one)
	}
	return all
}

// relations have tuples of any lengths, of few texts.
func (d drawer) relations() []api.Relation {
	var all []api.Relation
	for range d.r.Intn(4) {
		one := api.Relation{Pred: d.pred(), Arity: d.r.Intn(4)}
		for range d.r.Intn(9) {
			var tuple []string
			for range max(0, one.Arity+d.r.Intn(7)/5-d.r.Intn(7)/5) {
				tuple = append(tuple, string(rune('a'+d.r.Intn(4))))
			}
			one.Tuples = append(one.Tuples, tuple)
		}
		all = append(all, one)
	}
	return all
}

// changed is a plan with one thing changed in a step, or with steps that stand elsewhere.
func (d drawer) changed(p api.Plan) api.Plan {
	p = bare(p)
	if len(p.Steps) == 0 {
		return p
	}
	i, k := d.r.Intn(len(p.Steps)), d.r.Intn(len(p.Steps))
	step := &p.Steps[i]
	switch d.r.Intn(6) {
	case 0:
		*step, p.Steps[k] = p.Steps[k], *step
	case 1:
		step.Literal = d.r.Intn(len(p.Steps)+2) - 1
	case 2:
		step.Bound = append(step.Bound, d.r.Intn(4))
	case 3:
		step.New = append(step.New, d.term().Text)
	case 4:
		step.Bound = step.Bound[:len(step.Bound)/2]
	case 5:
		step.New = step.New[:len(step.New)/2]
	}
	return p
}
