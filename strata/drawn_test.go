package strata

import (
	"math/rand"

	"inkling/api"
)

// drawer draws programs over so many given and so many derived predicates. One literal of so many is negative, and one is of any predicate, not of one below the head's; one thing of so many is not in form, has another arity, is mixed, has a variable that nothing binds; none at 0.
type drawer struct {
	r                               *rand.Rand
	given, derived                  int
	negative, back                  int
	unformed, arity, mix, looseness int
}

func (d drawer) oneIn(count int) bool { return count > 0 && d.r.Intn(count) == 0 }

// A predicate's number tells its name and its arity; those from d.given on are derived. Rising numbers don't rise as texts.
func pred(number int) string {
	return string(rune('a'+number*7%26)) + "_" + string(rune('a'+number/26))
}

func (d drawer) atom(number int, names ...string) api.Atom {
	a := atom(pred(number))
	if d.oneIn(d.unformed) {
		a.Pred = []string{"", "X", "not", "a b"}[d.r.Intn(4)]
	}
	arity := number % 3
	if d.oneIn(d.arity) {
		arity = d.r.Intn(5)
	}
	for range arity {
		if len(names) == 0 || d.oneIn(4) {
			a.Args = append(a.Args, constant(string(rune('a'+d.r.Intn(3)))))
			continue
		}
		a.Args = append(a.Args, variable(names[d.r.Intn(len(names))]))
	}
	return a
}

// rule has a body, of which the first literal binds the rule's variables, but for the loose one.
func (d drawer) rule() api.Rule {
	number := d.given + d.r.Intn(d.derived)
	if d.oneIn(d.mix) {
		number = d.r.Intn(d.given + d.derived)
	}
	names := []string{"X", "Y"}
	if d.oneIn(d.looseness) {
		names = append(names, "Loose")
	}
	r := rule(d.atom(number, names...), positive(atom("bind", variable("X"), variable("Y"))))
	for range d.r.Intn(4) {
		r.Body = append(r.Body, d.literal(number, names))
	}
	d.r.Shuffle(len(r.Body), func(i, k int) { r.Body[i], r.Body[k] = r.Body[k], r.Body[i] })
	return r
}

// literal is of a predicate below the head's, or, if it is positive, of the head's own; of any, where it leads back.
func (d drawer) literal(head int, names []string) api.Literal {
	if d.oneIn(8) {
		return unlike(variable(names[d.r.Intn(len(names))]), constant("a"))
	}
	number := d.r.Intn(max(head, 1))
	if d.oneIn(d.back) {
		number = d.r.Intn(d.given + d.derived)
	}
	switch {
	case d.oneIn(d.negative):
		return negative(d.atom(number, names...))
	case d.oneIn(6):
		number = head
	}
	return positive(d.atom(number, names...))
}

func (d drawer) program(statements int) api.Program {
	var p api.Program
	for range statements {
		number := d.r.Intn(d.given)
		switch d.r.Intn(8) {
		case 0:
			p.Inputs = append(p.Inputs, api.Input{Pred: pred(number), Arity: number % 3, File: "f"})
		case 1:
			number = d.r.Intn(d.given + d.derived)
			p.Outputs = append(p.Outputs, api.Output{Pred: pred(number), Arity: number % 3})
		case 2:
			p.Rules = append(p.Rules, rule(d.atom(number)))
		default:
			p.Rules = append(p.Rules, d.rule())
		}
	}
	return p
}

// shuffled is a program with its statements, and its rules' literals, in another order.
func (d drawer) shuffled(p api.Program) api.Program {
	q := copyProgram(p)
	d.r.Shuffle(len(q.Inputs), func(i, k int) { q.Inputs[i], q.Inputs[k] = q.Inputs[k], q.Inputs[i] })
	d.r.Shuffle(len(q.Outputs), func(i, k int) { q.Outputs[i], q.Outputs[k] = q.Outputs[k], q.Outputs[i] })
	d.r.Shuffle(len(q.Rules), func(i, k int) { q.Rules[i], q.Rules[k] = q.Rules[k], q.Rules[i] })
	for _, r := range q.Rules {
		d.r.Shuffle(len(r.Body), func(i, k int) { r.Body[i], r.Body[k] = r.Body[k], r.Body[i] })
	}
	return q
}
