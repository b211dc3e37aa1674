package print

import (
	"math/rand"

	"inkling/api"
)

// drawer draws programs; one thing of so many is not in form, none at 0.
type drawer struct {
	r   *rand.Rand
	bad int
}

// wrong tells, now and then, that the next thing is not to be in form.
func (d drawer) wrong() bool { return d.bad > 0 && d.r.Intn(d.bad) == 0 }

func oneOf[T any](d drawer, list ...T) T { return list[d.r.Intn(len(list))] }

func (d drawer) bytes() string {
	b := make([]byte, d.r.Intn(6))
	if d.r.Intn(40) == 0 {
		b = make([]byte, 1024)
	}
	for i := range b {
		b[i] = byte(d.r.Intn(256))
		if d.r.Intn(3) == 0 {
			b[i] = oneOf(d, []byte("\"\\\n\tx0,(). ")...)
		}
	}
	return string(b)
}

func (d drawer) name() string {
	if d.wrong() {
		return oneOf(d, badNames...)
	}
	return oneOf(d, "p", "q", "r", "e", "pQ_1", "nota", "inputs", "outputs", "not_", times(64, "p"))
}

func (d drawer) arity() int {
	if d.wrong() {
		return oneOf(d, -1, 17, 1<<40)
	}
	return d.r.Intn(17)
}

func (d drawer) file() string {
	if d.wrong() {
		return times(1025, "f")
	}
	return d.bytes()
}

func (d drawer) term() api.Term {
	if d.wrong() {
		return oneOf(d, variable(""), variable("x"), variable("not"), variable(times(65, "X")), constant(times(1025, "a")))
	}
	switch d.r.Intn(4) {
	case 0:
		return variable(oneOf(d, "X", "Y", "Xa_1", times(64, "Z")))
	case 1:
		return constant(oneOf(d, "a", "b", "a1", "0", "007", "p", times(64, "a"), times(64, "7")))
	case 2:
		return constant(oneOf(d, "", "X", "not", "input", "output", "a b", "_", "1a", times(65, "a"), times(65, "7")))
	}
	return constant(d.bytes())
}

func (d drawer) atom() api.Atom {
	a := api.Atom{Pred: d.name()}
	count := d.r.Intn(4)
	switch {
	case d.wrong():
		count = 17
	case d.r.Intn(20) == 0:
		count = 16
	}
	for range count {
		a.Args = append(a.Args, d.term())
	}
	return a
}

func (d drawer) literal() api.Literal {
	var l api.Literal
	switch d.r.Intn(3) {
	case 0:
		l = positive(d.atom())
	case 1:
		l = negative(d.atom())
	default:
		l = unlike(d.term(), d.term())
	}
	if d.wrong() {
		l.Kind = oneOf[api.LitKind](d, 0, 1, 2, 3, 4, -1)
	}
	if d.wrong() {
		l.Left = oneOf(d, variable(""), constant("a"))
	}
	if d.wrong() {
		l.Right = oneOf(d, variable(""), constant("a"))
	}
	if d.wrong() {
		l.Atom = oneOf(d, atom("q"), atom("", api.Term{}))
	}
	return l
}

func (d drawer) rule() api.Rule {
	r := api.Rule{Head: d.atom()}
	count := d.r.Intn(4)
	switch {
	case d.wrong():
		count = 257
	case d.r.Intn(100) == 0:
		count = 256
	}
	for range count {
		r.Body = append(r.Body, d.literal())
	}
	return r
}

func (d drawer) program(statements int) api.Program {
	var p api.Program
	for range statements {
		switch d.r.Intn(4) {
		case 0:
			p.Inputs = append(p.Inputs, api.Input{Pred: d.name(), Arity: d.arity(), File: d.file()})
		case 1:
			p.Outputs = append(p.Outputs, api.Output{Pred: d.name(), Arity: d.arity()})
		default:
			p.Rules = append(p.Rules, d.rule())
		}
	}
	return p
}
