package normal

import (
	"fmt"
	"reflect"
	"slices"
	"strings"
	"testing"

	"inkling/api"
	"inkling/parse"
	"inkling/print"
	"inkling/roles"
	"inkling/strata"
)

func variable(text string) api.Term { return api.Term{Var: true, Text: text} }

func constant(text string) api.Term { return api.Term{Text: text} }

// term is a variable, if its text begins as one does, else a constant.
func term(text string) api.Term {
	return api.Term{Var: text != "" && text[0] >= 'A' && text[0] <= 'Z', Text: text}
}

func atom(pred string, texts ...string) api.Atom {
	a := api.Atom{Pred: pred}
	for _, text := range texts {
		a.Args = append(a.Args, term(text))
	}
	return a
}

func positive(pred string, texts ...string) api.Literal {
	return api.Literal{Kind: api.Positive, Atom: atom(pred, texts...)}
}

func negative(pred string, texts ...string) api.Literal {
	return api.Literal{Kind: api.Negative, Atom: atom(pred, texts...)}
}

func unlike(left, right string) api.Literal {
	return api.Literal{Kind: api.Unlike, Left: term(left), Right: term(right)}
}

func rule(head api.Atom, body ...api.Literal) api.Rule { return api.Rule{Head: head, Body: body} }

// say is a thing as a text, cut where it is long.
func say(x any) string {
	if r, ok := x.(api.Rule); ok {
		if text, e := print.Rule(r); e == api.OK {
			x = text
		}
	}
	if p, ok := x.(api.Program); ok {
		if text, e := print.Program(p); e == api.OK {
			x = strings.ReplaceAll(text, "\n", " ")
		}
	}
	text := fmt.Sprintf("%+v", x)
	return text[:min(len(text), 800)]
}

// read is the rule of a text without its dot.
func read(t testing.TB, text string) api.Rule {
	t.Helper()
	r, at, e := parse.Rule(text + ".")
	if e != api.OK {
		t.Fatalf("%q is no rule's text: %d, %v", text, at, e)
	}
	return r
}

func readProgram(t testing.TB, text string) api.Program {
	t.Helper()
	p, _, at, e := parse.Program(text)
	if e != api.OK {
		t.Fatalf("%q is no program's text: %d, %v", text, at, e)
	}
	return p
}

func same(a, b any) bool { return reflect.DeepEqual(a, b) }

// wantRule takes a rule and a rule's text, without its dot.
func wantRule(t testing.TB, what string, got api.Rule, wanted string) {
	t.Helper()
	if !same(copyRule(got), copyRule(read(t, wanted))) {
		t.Errorf("%s is %s; want %s", what, say(got), wanted)
	}
}

func wantRename(t testing.TB, text, wanted string) {
	t.Helper()
	wantRule(t, "Rename of "+text, Rename(read(t, text)), wanted)
	wantRuleLaws(t, read(t, text))
}

func wantBody(t testing.TB, text, wanted string) {
	t.Helper()
	wantRule(t, "Body of "+text, Body(read(t, text)), wanted)
	wantRuleLaws(t, read(t, text))
}

func wantInOneForm(t testing.TB, text, wanted string) {
	t.Helper()
	wantRule(t, "Rule of "+text, Rule(read(t, text)), wanted)
	wantRuleLaws(t, read(t, text))
}

// wantPut takes names and terms between blanks.
func wantPut(t testing.TB, text, names, terms, wanted string) {
	t.Helper()
	var list []api.Term
	for _, word := range strings.Fields(terms) {
		list = append(list, term(word))
	}
	wantRule(t, "Put of "+text, Put(read(t, text), strings.Fields(names), list), wanted)
}

func wantVars(t testing.TB, text, wanted string) {
	t.Helper()
	if got := Vars(read(t, text)); !slices.Equal(got, strings.Fields(wanted)) {
		t.Errorf("Vars of %s is %v; want %s", text, got, wanted)
	}
	wantRuleLaws(t, read(t, text))
}

func wantCompare(t testing.TB, a, b api.Literal, wanted int) {
	t.Helper()
	if got, back := Compare(a, b), Compare(b, a); got != wanted || back != -wanted {
		t.Errorf("Compare of %v and %v is %d, back %d; want %d", a, b, got, back, wanted)
	}
	wantPairLaws(t, rule(atom("p"), a), rule(atom("p"), b))
}

// wantOrder takes literals' texts, and how they compare.
func wantOrder(t testing.TB, a, b string, wanted int) {
	t.Helper()
	wantCompare(t, read(t, "p :- "+a).Body[0], read(t, "p :- "+b).Body[0], wanted)
}

func wantRulesOrder(t testing.TB, a, b string, wanted int) {
	t.Helper()
	x, y := read(t, a), read(t, b)
	if got, back := CompareRules(x, y), CompareRules(y, x); got != wanted || back != -wanted {
		t.Errorf("CompareRules of %s and %s is %d, back %d; want %d", a, b, got, back, wanted)
	}
	wantPairLaws(t, x, y)
}

func wantAlike(t testing.TB, a, b string, wanted bool) {
	t.Helper()
	x, y := read(t, a), read(t, b)
	if Alike(x, y) != wanted || Alike(y, x) != wanted {
		t.Errorf("Alike of %s and %s is %v, back %v", a, b, Alike(x, y), Alike(y, x))
	}
	wantPairLaws(t, x, y)
}

// wantCovers takes whether the first covers the second, and the second the first.
func wantCovers(t testing.TB, a, b string, wanted, back bool) {
	t.Helper()
	x, y := read(t, a), read(t, b)
	if Covers(x, y) != wanted || Covers(y, x) != back {
		t.Errorf("Covers of %s and %s is %v, back %v; want %v, %v", a, b, Covers(x, y), Covers(y, x), wanted, back)
	}
	wantPairLaws(t, x, y)
}

func wantProgram(t testing.TB, text, wanted string) {
	t.Helper()
	p := readProgram(t, text)
	if got := Program(p); !same(copyProgram(got), copyProgram(readProgram(t, wanted))) {
		t.Errorf("Program of %s is %s; want %s", text, say(got), wanted)
	}
	wantProgramLaws(t, p)
}

func wantThin(t testing.TB, text, wanted string) {
	t.Helper()
	p := readProgram(t, text)
	if got := Thin(p); !same(copyProgram(got), copyProgram(readProgram(t, wanted))) {
		t.Errorf("Thin of %s is %s; want %s", text, say(got), wanted)
	}
	wantProgramLaws(t, p)
}

func wantSameRule(t testing.TB, what string, of, got, wanted api.Rule) {
	t.Helper()
	if !same(copyRule(got), copyRule(wanted)) {
		t.Errorf("%s of %s is %s; want %s", what, say(of), say(got), say(wanted))
	}
}

// other is a rule that says the same: its variables have other names, its literals stand in another order, some twice, and what may be is turned round.
func other(r api.Rule) api.Rule {
	q := copyRule(r)
	for _, place := range places(&q) {
		if place.Var {
			place.Text += "'"
		}
	}
	slices.Reverse(q.Body)
	for i, l := range q.Body {
		if i%2 == 0 {
			l = copyRule(rule(q.Head, l)).Body[0]
			if l.Kind == api.Unlike {
				l.Left, l.Right = l.Right, l.Left
			}
			q.Body = append(q.Body, l)
		}
	}
	return q
}

// wantRuleLaws holds what is promised of every rule.
func wantRuleLaws(t testing.TB, r api.Rule) {
	t.Helper()
	before := copyRule(r)
	renamed, ordered := Rename(r), Body(r)
	if got := Vars(r); !slices.Equal(got, plainVars(r)) {
		t.Errorf("Vars of %s is %v; want %v", say(r), got, plainVars(r))
	}
	wantSameRule(t, "Rename", r, renamed, plainRename(r))
	wantSameRule(t, "Body", r, ordered, plainBody(r))
	wantSameRule(t, "Rule", r, Rule(r), plainRename(plainBody(r)))
	wantSameRule(t, "Rename of Rename", r, Rename(renamed), renamed)
	wantSameRule(t, "Body of Body", r, Body(ordered), ordered)
	twice := copyRule(r)
	twice.Body = append(copyRule(r).Body, twice.Body...)
	slices.Reverse(twice.Body)
	wantSameRule(t, "Body of it twice and turned", r, Body(twice), ordered)
	wantSameRule(t, "Rule of it twice and turned", r, Rule(twice), Rule(r))
	var apart []api.Term
	for _, name := range plainVars(r) {
		apart = append(apart, variable("V"+name))
	}
	wantSameRule(t, "Rename of it renamed", r, Rename(Put(r, plainVars(r), apart)), renamed)
	for _, x := range []api.Rule{r, renamed, ordered, Rule(r), twice, other(r)} {
		if !Alike(r, x) || !Alike(x, r) || !Covers(r, x) || !Covers(x, r) {
			t.Errorf("%s and %s are alike: %v, %v; cover one another: %v, %v", say(r), say(x), Alike(r, x), Alike(x, r), Covers(r, x), Covers(x, r))
		}
	}
	if CompareRules(r, before) != 0 || !same(copyRule(r), before) {
		t.Errorf("what was handed in was\n%s; is\n%s", say(before), say(r))
	}
}

// ways is in how many ways things can be put in so many places.
func ways(places, things int) int {
	all := 1
	for range places {
		all = min(all*max(things, 1), 1<<30)
	}
	return all
}

// wantPairLaws holds what is promised of any two rules; what takes too long to be tried in all ways is not.
func wantPairLaws(t testing.TB, a, b api.Rule) {
	t.Helper()
	if got := CompareRules(a, b); got != plainCompareRules(a, b) || CompareRules(b, a) != -got {
		t.Errorf("CompareRules of %s and %s is %d, back %d", say(a), say(b), got, CompareRules(b, a))
	}
	for i := range min(len(a.Body), len(b.Body)) {
		if x, y := a.Body[i], b.Body[i]; Compare(x, y) != plainCompare(x, y) {
			t.Errorf("Compare of %v and %v is %d", x, y, Compare(x, y))
		}
	}
	covers := steadyCovers
	if ways(len(plainVars(a)), len(places(&b))) < 5000 && ways(len(plainVars(b)), len(places(&a))) < 5000 {
		covers = plainCovers
	}
	if Covers(a, b) != covers(a, b) || Covers(b, a) != covers(b, a) {
		t.Errorf("Covers of %s and %s is %v, back %v", say(a), say(b), Covers(a, b), Covers(b, a))
	}
	alike := Alike(a, b)
	if alike != Alike(b, a) || alike && !(Covers(a, b) && Covers(b, a)) {
		t.Errorf("of %s and %s: Alike %v, back %v; Covers %v, back %v", say(a), say(b), alike, Alike(b, a), Covers(a, b), Covers(b, a))
	}
	if len(plainVars(a)) < 6 && alike != plainAlike(a, b) {
		t.Errorf("Alike of %s and %s is %v", say(a), say(b), alike)
	}
	if CompareRules(Rule(a), Rule(b)) == 0 && !alike {
		t.Errorf("%s and %s have one form, but are not alike", say(a), say(b))
	}
}

// wantProgramLaws holds what is promised of every program.
func wantProgramLaws(t testing.TB, p api.Program) {
	t.Helper()
	before := copyProgram(p)
	inOneForm, thin := Program(p), Thin(p)
	if !same(copyProgram(inOneForm), plainProgram(p)) {
		t.Errorf("Program of %s is %s; want %s", say(p), say(inOneForm), say(plainProgram(p)))
	}
	if wanted := plainThin(p, steadyCovers); !same(copyProgram(thin), wanted) {
		t.Errorf("Thin of %s is %s; want %s", say(p), say(thin), say(wanted))
	}
	if !same(copyProgram(Thin(thin)), copyProgram(thin)) {
		t.Errorf("Thin of %s, which is thin, is %s", say(thin), say(Thin(thin)))
	}
	if strata.Good(p) == api.OK && (strata.Good(inOneForm) != api.OK || strata.Good(thin) != api.OK) {
		t.Errorf("of %s: Program is %v, Thin %v", say(p), strata.Good(inOneForm), strata.Good(thin))
	}
	if !same(copyProgram(p), before) {
		t.Errorf("what was handed in was\n%s; is\n%s", say(before), say(p))
	}
}

// wantOneModel: a good program, its Program and its Thin have one model, as far as they name the same predicates.
func wantOneModel(t testing.TB, p api.Program, facts []api.Fact, constants []string) {
	t.Helper()
	wanted := plainModel(p, facts, constants)
	for _, q := range []api.Program{Program(p), Thin(p), Thin(Program(p)), Program(Thin(p))} {
		list, _ := roles.Roles(q)
		got := plainModel(q, facts, constants)
		for _, role := range list {
			if !same(tuplesOf(got, role.Pred), tuplesOf(wanted, role.Pred)) {
				t.Errorf("of %s %s has the tuples %v, as %s %v", say(p), role.Pred, tuplesOf(wanted, role.Pred), say(q), tuplesOf(got, role.Pred))
			}
		}
	}
}

func tuplesOf(model []api.Fact, pred string) [][]string {
	var list [][]string
	for _, fact := range model {
		if fact.Pred == pred {
			list = append(list, fact.Tuple)
		}
	}
	slices.SortFunc(list, slices.Compare)
	return list
}

// copyProgram and the like copy all of it; lists without things are nil in the copy.
func copyProgram(p api.Program) api.Program {
	q := api.Program{Inputs: copyList(p.Inputs), Outputs: copyList(p.Outputs), Rules: copyList(p.Rules)}
	for i := range q.Rules {
		q.Rules[i] = copyRule(q.Rules[i])
	}
	return q
}

func copyRule(r api.Rule) api.Rule {
	q := api.Rule{Head: copyAtom(r.Head), Body: copyList(r.Body)}
	for i := range q.Body {
		q.Body[i].Atom = copyAtom(q.Body[i].Atom)
	}
	return q
}

func copyAtom(a api.Atom) api.Atom { return api.Atom{Pred: a.Pred, Args: copyList(a.Args)} }

func copyList[T any](list []T) []T { return append([]T(nil), list...) }
