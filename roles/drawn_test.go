package roles

import (
	"math/rand"
	"slices"

	"inkling/api"
)

// drawer draws programs and facts; one thing of so many is not in form, has another arity, is mixed, is no fact; none at 0.
type drawer struct {
	r                           *rand.Rand
	unformed, arity, mix, spoil int
}

func (d drawer) oneIn(count int) bool { return count > 0 && d.r.Intn(count) == 0 }

func oneOf[T any](d drawer, list ...T) T { return list[d.r.Intn(len(list))] }

// A predicate's name ends with its arity.
func (d drawer) givenPred() string { return oneOf(d, "e2", "f1", "g0", "h1", "aB2", "n3") }

func (d drawer) derivedPred() string { return oneOf(d, "p1", "q2", "r0", "eA1", "z1") }

func (d drawer) anyPred() string { return oneOf(d, d.givenPred(), d.derivedPred()) }

func (d drawer) arityOf(pred string) int {
	if d.oneIn(d.arity) {
		return d.r.Intn(5)
	}
	return int(pred[len(pred)-1] - '0')
}

func (d drawer) name(pred string) string {
	if d.oneIn(d.unformed) {
		return oneOf(d, "", "X", "not", "input", "p ", "1", times(65, "p"))
	}
	return pred
}

func (d drawer) constant() string {
	if d.r.Intn(60) == 0 {
		return times(1024, oneOf(d, "a", "\x00"))
	}
	return oneOf(d, "", "a", "b", "c", "aa", "X", "0", "\xff", "é", "not")
}

func (d drawer) term() api.Term {
	switch {
	case d.oneIn(d.unformed):
		return oneOf(d, variable(""), variable("x"), variable(times(65, "X")), constant(times(1025, "a")))
	case d.r.Intn(2) == 0:
		return variable(oneOf(d, "X", "Y", "Z"))
	}
	return constant(d.constant())
}

func (d drawer) atom(pred string) api.Atom {
	a := atom(d.name(pred))
	for range d.arityOf(pred) {
		a.Args = append(a.Args, d.term())
	}
	return a
}

func (d drawer) literal() api.Literal {
	var l api.Literal
	switch d.r.Intn(4) {
	case 0:
		l = unlike(d.term(), d.term())
	case 1:
		l = negative(d.atom(d.anyPred()))
	default:
		l = positive(d.atom(d.anyPred()))
	}
	if d.oneIn(d.unformed) {
		l.Kind = oneOf[api.LitKind](d, -1, 0, 1, 2, 3, 4)
	}
	if d.oneIn(d.unformed) {
		l.Right = oneOf(d, variable(""), constant("a"))
	}
	return l
}

func (d drawer) rule() api.Rule {
	if d.r.Intn(2) == 0 {
		pred := d.givenPred()
		if d.oneIn(d.mix) {
			pred = d.derivedPred()
		}
		r := rule(d.atom(pred))
		if d.r.Intn(3) > 0 {
			for i := range r.Head.Args {
				r.Head.Args[i].Var = false
			}
		}
		return r
	}
	pred := d.derivedPred()
	if d.oneIn(d.mix) {
		pred = d.givenPred()
	}
	r := rule(d.atom(pred))
	for range 1 + d.r.Intn(3) {
		r.Body = append(r.Body, d.literal())
	}
	return r
}

func (d drawer) program(statements int) api.Program {
	var p api.Program
	for range statements {
		switch d.r.Intn(6) {
		case 0:
			pred := d.givenPred()
			if d.oneIn(d.mix) {
				pred = d.derivedPred()
			}
			p.Inputs = append(p.Inputs, api.Input{Pred: d.name(pred), Arity: d.arityOf(pred), File: d.constant()})
		case 1:
			pred := d.anyPred()
			p.Outputs = append(p.Outputs, api.Output{Pred: d.name(pred), Arity: d.arityOf(pred)})
		default:
			p.Rules = append(p.Rules, d.rule())
		}
	}
	return p
}

// facts are facts of a program, if nothing is spoilt; of one that has no roles, none.
func (d drawer) facts(p api.Program) []api.Relation {
	all, _ := Roles(p)
	var l []api.Relation
	for _, role := range all {
		if role.Derived && !d.oneIn(d.spoil) || d.r.Intn(3) == 0 {
			continue
		}
		r := api.Relation{Pred: role.Pred, Arity: role.Arity}
		for range d.r.Intn(6) {
			var tuple []string
			for range r.Arity {
				tuple = append(tuple, d.constant())
			}
			r.Tuples = append(r.Tuples, tuple)
		}
		slices.SortFunc(r.Tuples, slices.Compare[[]string])
		r.Tuples = slices.CompactFunc(r.Tuples, slices.Equal[[]string])
		d.spoilRelation(&r)
		l = append(l, r)
		if d.oneIn(d.spoil) {
			d.r.Shuffle(len(l), func(i, k int) { l[i], l[k] = l[k], l[i] })
		}
	}
	return l
}

func (d drawer) spoilRelation(r *api.Relation) {
	if d.oneIn(d.spoil) {
		r.Arity += oneOf(d, -1, 1)
	}
	if d.oneIn(d.spoil) {
		r.Pred += oneOf(d, "", "0", " ")
	}
	if len(r.Tuples) == 0 || !d.oneIn(d.spoil) {
		return
	}
	i := d.r.Intn(len(r.Tuples))
	switch d.r.Intn(4) {
	case 0:
		r.Tuples = slices.Insert(r.Tuples, i, r.Tuples[i])
	case 1:
		r.Tuples[i] = append(r.Tuples[i], "a")
	case 2:
		r.Tuples[0], r.Tuples[i] = r.Tuples[i], r.Tuples[0]
	default:
		if len(r.Tuples[i]) > 0 {
			r.Tuples[i][0] = times(1025, "z")
		}
	}
}
