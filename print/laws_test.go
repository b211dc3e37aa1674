package print

import (
	"reflect"
	"slices"
	"strings"
	"testing"

	"inkling/api"
	"inkling/parse"
)

func times(count int, text string) string { return strings.Repeat(text, count) }

func variable(text string) api.Term { return api.Term{Var: true, Text: text} }

func constant(text string) api.Term { return api.Term{Text: text} }

func atom(pred string, args ...api.Term) api.Atom { return api.Atom{Pred: pred, Args: args} }

func positive(a api.Atom) api.Literal { return api.Literal{Kind: api.Positive, Atom: a} }

func negative(a api.Atom) api.Literal { return api.Literal{Kind: api.Negative, Atom: a} }

func unlike(left, right api.Term) api.Literal {
	return api.Literal{Kind: api.Unlike, Left: left, Right: right}
}

func rule(head api.Atom, body ...api.Literal) api.Rule { return api.Rule{Head: head, Body: body} }

// ofTerm and the like are programs with nothing but the thing.
func ofTerm(t api.Term) api.Program { return ofAtom(atom("p", t)) }

func ofAtom(a api.Atom) api.Program { return ofRule(rule(a)) }

func ofLiteral(l api.Literal) api.Program { return ofRule(rule(atom("p"), l)) }

func ofRule(r api.Rule) api.Program { return api.Program{Rules: []api.Rule{r}} }

// wantAnswer: just the wanted text beside OK, or none beside ErrArg.
func wantAnswer(t testing.TB, what any, text string, e api.Errno, wanted string, inForm bool) {
	t.Helper()
	switch {
	case inForm && (text != wanted || e != api.OK):
		t.Errorf("%#v is %q, %v; want %q", what, text, e, wanted)
	case !inForm && (text != "" || e != api.ErrArg):
		t.Errorf("%#v is %q, %v; want ErrArg", what, text, e)
	}
}

// wantTerm holds a term, alone and in all that has terms, against a text.
func wantTerm(t testing.TB, term api.Term, wanted string) {
	t.Helper()
	text, e := Term(term)
	wantAnswer(t, term, text, e, wanted, true)
	wantAtom(t, atom("p", term), "p("+wanted+")")
	wantAtom(t, atom("p", constant("a"), term, constant("b")), "p(a, "+wanted+", b)")
	wantLiteral(t, unlike(term, constant("a")), wanted+" != a")
	wantLiteral(t, unlike(constant("a"), term), "a != "+wanted)
}

func wantAtom(t testing.TB, a api.Atom, wanted string) {
	t.Helper()
	text, e := Atom(a)
	wantAnswer(t, a, text, e, wanted, true)
	wantRule(t, rule(a), wanted+".")
	wantLiteral(t, positive(a), wanted)
	wantLiteral(t, negative(a), "not "+wanted)
}

func wantLiteral(t testing.TB, l api.Literal, wanted string) {
	t.Helper()
	text, e := Literal(l)
	wantAnswer(t, l, text, e, wanted, true)
	wantRule(t, rule(atom("p"), l), "p :- "+wanted+".")
	wantRule(t, rule(atom("p"), positive(atom("q")), l, negative(atom("r"))), "p :- q, "+wanted+", not r.")
}

func wantRule(t testing.TB, r api.Rule, wanted string) {
	t.Helper()
	text, e := Rule(r)
	wantAnswer(t, r, text, e, wanted, true)
	wantProgram(t, ofRule(r), wanted+"\n")
}

func wantProgram(t testing.TB, p api.Program, wanted string) {
	t.Helper()
	text, e := Program(p)
	wantAnswer(t, p, text, e, wanted, true)
	wantLaws(t, p)
}

// wantNoTerm and the like: it is not in form, nor is what it stands in.
func wantNoTerm(t testing.TB, term api.Term) {
	t.Helper()
	text, e := Term(term)
	wantAnswer(t, term, text, e, "", false)
	wantNoAtom(t, atom("p", term))
	wantNoAtom(t, atom("p", term, constant("a"), constant("b")))
	wantNoAtom(t, atom("p", constant("a"), term, constant("b")))
	wantNoAtom(t, atom("p", constant("a"), constant("b"), term))
	wantNoLiteral(t, unlike(term, constant("a")))
	wantNoLiteral(t, unlike(constant("a"), term))
}

func wantNoAtom(t testing.TB, a api.Atom) {
	t.Helper()
	text, e := Atom(a)
	wantAnswer(t, a, text, e, "", false)
	wantNoRule(t, rule(a))
	wantNoRule(t, rule(a, positive(atom("q"))))
	wantNoLiteral(t, positive(a))
	wantNoLiteral(t, negative(a))
}

func wantNoLiteral(t testing.TB, l api.Literal) {
	t.Helper()
	text, e := Literal(l)
	wantAnswer(t, l, text, e, "", false)
	for at := range 4 {
		body := slices.Insert([]api.Literal{positive(atom("q")), negative(atom("r")), unlike(variable("X"), constant("a"))}, at, l)
		wantNoRule(t, rule(atom("p"), body...))
	}
	wantNoRule(t, rule(atom("p"), l))
}

func wantNoRule(t testing.TB, r api.Rule) {
	t.Helper()
	text, e := Rule(r)
	wantAnswer(t, r, text, e, "", false)
	wantNoProgram(t, ofRule(r))
}

func wantNoProgram(t testing.TB, p api.Program) {
	t.Helper()
	text, e := Program(p)
	wantAnswer(t, p, text, e, "", false)
	if _, inForm := plainProgram(p); inForm {
		t.Errorf("%#v is in form", p)
	}
}

// wantLaws holds what is promised of every program and its parts, in form or not.
func wantLaws(t testing.TB, p api.Program) {
	t.Helper()
	before := copyProgram(p)
	wanted, inForm := plainProgram(p)
	text, e := Program(p)
	wantAnswer(t, p, text, e, wanted, inForm)
	for _, r := range p.Rules {
		wantPartsOfRule(t, r)
	}
	if inForm {
		wantBack(t, p, text)
	}
	if !reflect.DeepEqual(copyProgram(p), before) {
		t.Errorf("what was handed in was\n%#v; is\n%#v", before, p)
	}
}

func wantPartsOfRule(t testing.TB, r api.Rule) {
	t.Helper()
	wanted, inForm := plainRule(r)
	text, e := Rule(r)
	wantAnswer(t, r, text, e, wanted, inForm)
	if inForm {
		wantRuleBack(t, r, text)
	}
	wantPartsOfAtom(t, r.Head)
	for _, l := range r.Body {
		wanted, inForm := plainLiteral(l)
		text, e := Literal(l)
		wantAnswer(t, l, text, e, wanted, inForm)
		wantPartsOfAtom(t, l.Atom)
		wantPlainTerms(t, l.Left, l.Right)
	}
}

func wantPartsOfAtom(t testing.TB, a api.Atom) {
	t.Helper()
	wanted, inForm := plainAtom(a)
	text, e := Atom(a)
	wantAnswer(t, a, text, e, wanted, inForm)
	wantPlainTerms(t, a.Args...)
}

func wantPlainTerms(t testing.TB, terms ...api.Term) {
	t.Helper()
	for _, x := range terms {
		wanted, inForm := plainTerm(x)
		text, e := Term(x)
		wantAnswer(t, x, text, e, wanted, inForm)
		wantPlainText(t, x.Text)
	}
}

// wantPlainText holds Bare and Quote against the document's words.
func wantPlainText(t testing.TB, s string) {
	t.Helper()
	if got := Bare(s); got != plainBare(s) {
		t.Errorf("Bare(%q) is %v", s, got)
	}
	if got := Quote(s); got != plainQuote(s) {
		t.Errorf("Quote(%q) is %q; want %q", s, got, plainQuote(s))
	}
}

// wantBack: a program's text is parsed as the program, its statements standing in a line each.
func wantBack(t testing.TB, p api.Program, text string) {
	t.Helper()
	back, places, at, e := parse.Program(text)
	if e != api.OK || at != 0 || !reflect.DeepEqual(back, copyProgram(p)) {
		t.Errorf("%q is parsed as\n%#v, %d, %v; want\n%#v", text, back, at, e, p)
	}
	if again, e := Program(back); again != text || e != api.OK {
		t.Errorf("%q is printed again as %q, %v", text, again, e)
	}
	lines, _ := plainStatements(p)
	var wanted []int
	begin := 0
	for _, x := range lines {
		wanted = append(wanted, begin)
		begin += len(x) + 1
	}
	if got := slices.Concat(places.Inputs, places.Outputs, places.Rules); !slices.Equal(got, wanted) || begin != len(text) {
		t.Errorf("%q has its statements at %v; want %v", text, got, wanted)
	}
}

// wantRuleBack: a rule's text is one statement, which is parsed as the rule.
func wantRuleBack(t testing.TB, r api.Rule, text string) {
	t.Helper()
	if back, at, e := parse.Rule(text); e != api.OK || at != 0 || !reflect.DeepEqual(back, copyRule(r)) {
		t.Errorf("%q is parsed as\n%#v, %d, %v; want\n%#v", text, back, at, e, r)
	}
	if back, _, _, e := parse.Program(text); e != api.OK || !reflect.DeepEqual(back, copyProgram(ofRule(r))) {
		t.Errorf("%q is parsed as\n%#v, %v; want one rule", text, back, e)
	}
	if strings.Contains(text, "\n") {
		t.Errorf("%q is more than a line", text)
	}
}

// copyProgram and the like copy all of it; lists without things are nil in the copy, as they are behind parse.
func copyProgram(p api.Program) api.Program {
	q := api.Program{Inputs: copyList(p.Inputs), Outputs: copyList(p.Outputs), Rules: copyList(p.Rules)}
	for i, r := range q.Rules {
		q.Rules[i] = copyRule(r)
	}
	return q
}

func copyRule(r api.Rule) api.Rule {
	q := api.Rule{Head: copyAtom(r.Head), Body: copyList(r.Body)}
	for i := range q.Body {
		q.Body[i].Atom = copyAtom(q.Body[i].Atom)
	}
	return q
}

func copyAtom(a api.Atom) api.Atom { return api.Atom{Pred: a.Pred, Args: copyList(a.Args)} }

func copyList[T any](list []T) []T { return append([]T(nil), list...) }
