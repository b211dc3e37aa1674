package safe

import (
	"math/rand"

	"inkling/api"
)

// drawer draws rules over so many variables; one literal of so many is of no kind, or has what its kind does not name; none at 0.
type drawer struct {
	r               *rand.Rand
	names, unformed int
}

func (d drawer) oneIn(count int) bool { return count > 0 && d.r.Intn(count) == 0 }

func (d drawer) term() api.Term {
	text := string(rune('A' + d.r.Intn(d.names)))
	return api.Term{Var: d.r.Intn(4) > 0, Text: text}
}

func (d drawer) atom(most int) api.Atom {
	a := atom("p")
	for range d.r.Intn(most + 1) {
		a.Args = append(a.Args, d.term())
	}
	return a
}

func (d drawer) literal() api.Literal {
	var l api.Literal
	switch d.r.Intn(4) {
	case 0:
		l = unlike(d.term(), d.term())
	case 1:
		l = negative(d.atom(3))
	default:
		l = positive(d.atom(3))
	}
	if d.oneIn(d.unformed) {
		l.Atom, l.Left, l.Right = d.atom(3), d.term(), d.term()
	}
	if d.oneIn(d.unformed) {
		l.Kind = anyKinds[d.r.Intn(len(anyKinds))]
	}
	return l
}

func (d drawer) rule(most int) api.Rule {
	r := rule(d.atom(2))
	for range d.r.Intn(most + 1) {
		r.Body = append(r.Body, d.literal())
	}
	return r
}

func (d drawer) program(most int) api.Program {
	var p api.Program
	for range d.r.Intn(most + 1) {
		p.Rules = append(p.Rules, d.rule(5))
	}
	return p
}
