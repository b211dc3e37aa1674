package join

import (
	"math/rand"
	"slices"
	"testing"

	"inkling/api"
)

// drawer draws rules over so many variables, and facts over so many constants. One variable of so many is bound by nothing, one literal of so many is not in form; none at 0.
type drawer struct {
	r                   *rand.Rand
	names, constants    int
	looseness, unformed int
}

func (d drawer) oneIn(count int) bool { return count > 0 && d.r.Intn(count) == 0 }

func (d drawer) pred() string { return string(rune('p' + d.r.Intn(3))) }

func (d drawer) constant() string { return string(rune('a' + d.r.Intn(d.constants))) }

func (d drawer) term() api.Term {
	switch {
	case d.oneIn(d.looseness):
		return variable("Loose")
	case d.oneIn(5):
		return constant(d.constant())
	}
	return variable(string(rune('A' + d.r.Intn(d.names))))
}

func (d drawer) atom() api.Atom {
	a := atom(d.pred())
	for range d.r.Intn(4) {
		a.Args = append(a.Args, d.term())
	}
	return a
}

func (d drawer) literal() api.Literal {
	var l api.Literal
	switch d.r.Intn(6) {
	case 0:
		l = unlike(d.term(), d.term())
	case 1:
		l = negative(d.atom())
	default:
		l = positive(d.atom())
	}
	if d.oneIn(d.unformed) {
		l.Kind = api.LitKind(d.r.Intn(6) - 1)
	}
	return l
}

// rule has some literals, and behind them one for each variable that is left loose, but for those that are to be.
func (d drawer) rule(most int) api.Rule {
	r := rule(d.atom())
	for range d.r.Intn(most + 1) {
		r.Body = append(r.Body, d.literal())
	}
	for _, name := range plainVars(r) {
		bound := slices.ContainsFunc(r.Body, func(l api.Literal) bool {
			return l.Kind == api.Positive && slices.Contains(l.Atom.Args, variable(name))
		})
		if !bound && name != "Loose" {
			r.Body = append(r.Body, positive(atom(d.pred(), variable(name))))
		}
	}
	d.r.Shuffle(len(r.Body), func(i, k int) { r.Body[i], r.Body[k] = r.Body[k], r.Body[i] })
	return r
}

func (d drawer) fact() api.Fact {
	f := api.Fact{Pred: d.pred()}
	for range d.r.Intn(4) {
		f.Tuple = append(f.Tuple, d.constant())
	}
	return f
}

// store has up to so many facts. Constants come in another order in each, so their numbers differ.
func (d drawer) store(t testing.TB, most int) both {
	b := storeOf(t)
	for range d.r.Intn(most + 1) {
		b.add(t, d.fact())
	}
	return b
}

func (d drawer) four(t testing.TB, most int) four {
	return four{d.store(t, most), d.store(t, most), d.store(t, most), d.store(t, most)}
}
