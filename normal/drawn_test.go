package normal

import (
	"math/rand"
	"strconv"

	"inkling/api"
)

// anyKinds are kinds of literals, most of which are none of the three.
var anyKinds = []api.LitKind{api.Positive, api.Negative, api.Unlike, -1 << 63, -1, 0, 4, 1<<63 - 1}

// drawer draws rules over so many variables, constants and predicates. One literal of so many is of any kind, and has what its kind does not name; none at 0.
type drawer struct {
	r                           *rand.Rand
	variables, constants, preds int
	unformed                    int
}

func (d drawer) oneIn(count int) bool { return count > 0 && d.r.Intn(count) == 0 }

func (d drawer) term() api.Term {
	i := d.r.Intn(d.variables + d.constants)
	if i < d.variables {
		return variable("X" + strconv.Itoa(i))
	}
	return constant("X" + strconv.Itoa(i-d.variables))
}

// atom is of a predicate whose number tells its arity.
func (d drawer) atom() api.Atom {
	number := d.r.Intn(d.preds)
	a := atom("p" + strconv.Itoa(number))
	for range (number + 1) % 3 {
		a.Args = append(a.Args, d.term())
	}
	return a
}

func (d drawer) literal() api.Literal {
	var l api.Literal
	switch d.r.Intn(5) {
	case 0:
		l = api.Literal{Kind: api.Unlike, Left: d.term(), Right: d.term()}
	case 1:
		l = api.Literal{Kind: api.Negative, Atom: d.atom()}
	default:
		l = api.Literal{Kind: api.Positive, Atom: d.atom()}
	}
	if d.oneIn(d.unformed) {
		l = api.Literal{Kind: anyKinds[d.r.Intn(len(anyKinds))], Atom: d.atom(), Left: d.term(), Right: d.term()}
	}
	return l
}

func (d drawer) rule(most int) api.Rule {
	r := rule(d.atom())
	for range d.r.Intn(most + 1) {
		r.Body = append(r.Body, d.literal())
	}
	return r
}

func (d drawer) shuffled(r api.Rule) api.Rule {
	q := copyRule(r)
	d.r.Shuffle(len(q.Body), func(i, k int) { q.Body[i], q.Body[k] = q.Body[k], q.Body[i] })
	for i, l := range q.Body {
		if l.Kind == api.Unlike && d.oneIn(2) {
			q.Body[i].Left, q.Body[i].Right = l.Right, l.Left
		}
	}
	return q
}

// renamed is a rule in which each variable has another one's name, in another order.
func (d drawer) renamed(r api.Rule) api.Rule {
	names := plainVars(r)
	var list []api.Term
	for _, i := range d.r.Perm(len(names)) {
		list = append(list, variable("X"+strconv.Itoa(i)))
	}
	return d.shuffled(plainPut(r, names, list))
}

// near is a rule that says the same, but for one term, if it has any.
func (d drawer) near(r api.Rule) api.Rule {
	q := d.renamed(r)
	if all := places(&q); len(all) > 0 {
		*all[d.r.Intn(len(all))] = d.term()
	}
	return q
}

// special is a rule that another one covers: it has terms in the places of that one's variables, and more literals.
func (d drawer) special(r api.Rule) api.Rule {
	names := plainVars(r)
	var list []api.Term
	for range names {
		list = append(list, d.term())
	}
	q := plainPut(r, names, list)
	for range d.r.Intn(3) {
		q.Body = append(q.Body, d.literal())
	}
	return d.shuffled(q)
}

// wordier is a rule that says no more with one literal more: one of its own, with new variables.
func (d drawer) wordier(r api.Rule) api.Rule {
	q := copyRule(r)
	if len(q.Body) > 0 {
		more := copyRule(rule(q.Head, q.Body[d.r.Intn(len(q.Body))]))
		more.Head = atom("p")
		for i, place := range places(&more) {
			if place.Var {
				*place = variable("New" + strconv.Itoa(i))
			}
		}
		q.Body = append(q.Body, more.Body...)
	}
	return d.renamed(q)
}

// rules are some of which some are made of others.
func (d drawer) rules(count, most int) []api.Rule {
	var all []api.Rule
	for len(all) < count {
		r := d.rule(most)
		if len(all) > 0 && d.oneIn(2) {
			r = all[d.r.Intn(len(all))]
		}
		switch d.r.Intn(5) {
		case 0:
			r = d.renamed(r)
		case 1:
			r = d.near(r)
		case 2:
			r = d.special(r)
		case 3:
			r = d.wordier(r)
		}
		all = append(all, r)
	}
	return all
}

// goodProgram has rules over p0, which is given, q, which hangs on p0, and r, which hangs on both; all of two terms.
func (d drawer) goodProgram() api.Program {
	p := api.Program{Inputs: []api.Input{{Pred: "p0", Arity: 2, File: "f"}}, Outputs: []api.Output{{Pred: "r", Arity: 2}}}
	names := []string{"A", "B", "C"}
	text := func() string {
		if d.oneIn(6) {
			return "c"
		}
		return names[d.r.Intn(len(names))]
	}
	below := map[string][]string{"q": {"p0", "q"}, "r": {"p0", "q", "r"}}
	for range 1 + d.r.Intn(4) {
		head := []string{"q", "r"}[d.r.Intn(2)]
		one := rule(atom(head, text(), text()))
		for range 1 + d.r.Intn(3) {
			of := below[head]
			one.Body = append(one.Body, positive(of[d.r.Intn(len(of))], text(), text()))
		}
		switch d.r.Intn(4) {
		case 0:
			one.Body = append(one.Body, unlike(text(), text()))
		case 1:
			one.Body = append(one.Body, negative(below[head][len(below[head])-2], text(), text()))
		}
		p.Rules = append(p.Rules, one, one)
		switch last := len(p.Rules) - 1; d.r.Intn(3) {
		case 0:
			p.Rules[last] = d.renamed(one)
		case 1:
			p.Rules[last].Body = append(copyRule(one).Body, positive("p0", text(), text()))
		default:
			p.Rules = p.Rules[:last]
		}
	}
	d.r.Shuffle(len(p.Rules), func(i, k int) { p.Rules[i], p.Rules[k] = p.Rules[k], p.Rules[i] })
	return p
}
