package roles

import (
	"fmt"
	"reflect"
	"slices"
	"strings"
	"testing"

	"inkling/api"
	"inkling/parse"
)

func times(count int, text string) string { return strings.Repeat(text, count) }

func variable(text string) api.Term { return api.Term{Var: true, Text: text} }

func constant(text string) api.Term { return api.Term{Text: text} }

func atom(pred string, args ...api.Term) api.Atom { return api.Atom{Pred: pred, Args: args} }

func positive(a api.Atom) api.Literal { return api.Literal{Kind: api.Positive, Atom: a} }

func negative(a api.Atom) api.Literal { return api.Literal{Kind: api.Negative, Atom: a} }

func unlike(left, right api.Term) api.Literal {
	return api.Literal{Kind: api.Unlike, Left: left, Right: right}
}

func rule(head api.Atom, body ...api.Literal) api.Rule { return api.Rule{Head: head, Body: body} }

// say is a thing as a text, cut where it is long.
func say(x any) string {
	text := fmt.Sprintf("%+v", x)
	return text[:min(len(text), 600)]
}

// read is the program of a text.
func read(t testing.TB, text string) api.Program {
	t.Helper()
	p, _, at, e := parse.Program(text)
	if e != api.OK {
		t.Fatalf("%q is no program's text: %d, %v", text, at, e)
	}
	return p
}

// list is tuples, each of a text with its constants between blanks; a constant - is the empty one, a text without anything the empty tuple.
func list(texts ...string) [][]string {
	tuples := make([][]string, 0, len(texts))
	for _, text := range texts {
		tuple := strings.Fields(text)
		for i, constant := range tuple {
			if constant == "-" {
				tuple[i] = ""
			}
		}
		tuples = append(tuples, tuple)
	}
	return tuples
}

// of is a relation whose arity is the first tuple's length.
func of(pred string, texts ...string) api.Relation {
	r := api.Relation{Pred: pred, Tuples: list(texts...)}
	if len(texts) > 0 {
		r.Arity = len(r.Tuples[0])
	}
	return r
}

func none(pred string, arity int) api.Relation { return api.Relation{Pred: pred, Arity: arity} }

func relations(l ...api.Relation) []api.Relation { return l }

func sameRelations(a, b []api.Relation) bool {
	return slices.EqualFunc(a, b, func(x, y api.Relation) bool {
		return x.Pred == y.Pred && x.Arity == y.Arity && slices.EqualFunc(x.Tuples, y.Tuples, slices.Equal[[]string])
	})
}

func at(part api.Part, index int, pred string) api.Spot {
	return api.Spot{Part: part, Index: index, Pred: pred}
}

// wantInForm is about programs of which nothing is asked but whether they are in form.
func wantInForm(t testing.TB, p api.Program, wanted bool) {
	t.Helper()
	if Formed(p) != wanted {
		t.Errorf("Formed(%s) is not %v", say(p), wanted)
	}
	if _, e := Check(p); (e == api.ErrArg) == wanted {
		t.Errorf("Check(%s) is %v", say(p), e)
	}
	wantLaws(t, p, nil)
}

// wantRule holds a rule, alone and among others, against whether it is in form.
func wantRule(t testing.TB, r api.Rule, wanted bool) {
	t.Helper()
	if FormedRule(r) != wanted {
		t.Errorf("FormedRule(%s) is not %v", say(r), wanted)
	}
	wantInForm(t, api.Program{Rules: []api.Rule{r}}, wanted)
	other := rule(atom("other"))
	for i := range 3 {
		p := api.Program{Rules: slices.Insert([]api.Rule{other, other}, i, r)}
		wantInForm(t, p, wanted)
		if spot, _ := Check(p); !wanted && spot != at(api.PartRule, i, "") {
			t.Errorf("Check tells %v of a rule at %d", spot, i)
		}
	}
}

func wantAtom(t testing.TB, a api.Atom, wanted bool) {
	t.Helper()
	wantRule(t, rule(a), wanted)
	wantRule(t, rule(a, positive(atom("q"))), wanted)
	wantLiteral(t, positive(a), wanted)
	wantLiteral(t, negative(a), wanted)
	noAtom := a.Pred == "" && len(a.Args) == 0
	wantLiteral(t, api.Literal{Kind: api.Unlike, Atom: a, Left: constant("a"), Right: constant("b")}, noAtom)
}

func wantLiteral(t testing.TB, l api.Literal, wanted bool) {
	t.Helper()
	for i := range 4 {
		body := []api.Literal{positive(atom("q")), negative(atom("r")), unlike(variable("X"), constant("a"))}
		wantRule(t, rule(atom("p"), slices.Insert(body, i, l)...), wanted)
	}
	wantRule(t, rule(atom("p"), l), wanted)
}

func wantTerm(t testing.TB, x api.Term, wanted bool) {
	t.Helper()
	wantAtom(t, atom("p", x), wanted)
	for i := range 3 {
		wantAtom(t, atom("p", slices.Insert([]api.Term{constant("a"), variable("X")}, i, x)...), wanted)
	}
	wantLiteral(t, unlike(x, constant("a")), wanted)
	wantLiteral(t, unlike(constant("a"), x), wanted)
}

// wantPred is about a text as a predicate, wherever one stands.
func wantPred(t testing.TB, pred string, wanted bool) {
	t.Helper()
	wantAtom(t, atom(pred), wanted)
	wantAtom(t, atom(pred, constant("a")), wanted)
	wantInForm(t, api.Program{Inputs: []api.Input{{Pred: pred}}}, wanted)
	wantInForm(t, api.Program{Outputs: []api.Output{{Pred: pred}}}, wanted)
}

func wantCheck(t testing.TB, p api.Program, spot api.Spot, wanted api.Errno) {
	t.Helper()
	if got, e := Check(p); got != spot || e != wanted {
		t.Errorf("Check(%s) is %v, %v; want %v, %v", say(p), got, e, spot, wanted)
	}
	wantLaws(t, p, nil)
}

func wantCheckOf(t testing.TB, text string, spot api.Spot, wanted api.Errno) {
	t.Helper()
	wantCheck(t, read(t, text), spot, wanted)
}

func wantRolesOf(t testing.TB, text string, wanted ...api.Role) {
	t.Helper()
	p := read(t, text)
	if got, e := Roles(p); !slices.Equal(got, wanted) || e != api.OK {
		t.Errorf("Roles(%q) is %s, %v; want %s", text, say(got), e, say(wanted))
	}
	wantCheck(t, p, api.Spot{}, api.OK)
}

func wantFactsOf(t testing.TB, text string, l []api.Relation, wanted api.Errno) {
	t.Helper()
	p := read(t, text)
	if e := Facts(p, l); e != wanted {
		t.Errorf("Facts(%q, %s) is %v; want %v", text, say(l), e, wanted)
	}
	wantLaws(t, p, l)
}

func wantGivenOf(t testing.TB, text string, l []api.Relation, wanted ...api.Relation) {
	t.Helper()
	p := read(t, text)
	if got, e := Given(p, l); !sameRelations(got, wanted) || e != api.OK {
		t.Errorf("Given(%q, %s) is %s, %v; want %s", text, say(l), say(got), e, say(wanted))
	}
	wantLaws(t, p, l)
}

func wantConstantsOf(t testing.TB, text string, l []api.Relation, wanted ...string) {
	t.Helper()
	p := read(t, text)
	if got, e := Constants(p, l); !slices.Equal(got, wanted) || e != api.OK {
		t.Errorf("Constants(%q, %s) is %q, %v; want %q", text, say(l), got, e, wanted)
	}
	wantLaws(t, p, l)
}

// wantLaws holds what is promised of every program and every list of relations.
func wantLaws(t testing.TB, p api.Program, l []api.Relation) {
	t.Helper()
	before, facts := copyProgram(p), copyRelations(l)
	wantLawsOfProgram(t, p)
	wantLawsOfFacts(t, p, nil)
	wantLawsOfFacts(t, p, l)
	if !reflect.DeepEqual(copyProgram(p), before) || !reflect.DeepEqual(copyRelations(l), facts) {
		t.Errorf("what was handed in was\n%s, %s; is\n%s, %s", say(before), say(facts), say(p), say(l))
	}
}

func wantLawsOfProgram(t testing.TB, p api.Program) {
	t.Helper()
	if got := Formed(p); got != plainFormed(p) {
		t.Errorf("Formed(%s) is %v", say(p), got)
	}
	for _, r := range p.Rules {
		if got := FormedRule(r); got != plainRule(r) {
			t.Errorf("FormedRule(%s) is %v", say(r), got)
		}
	}
	spot, wanted := plainCheck(p)
	if got, e := Check(p); got != spot || e != wanted {
		t.Errorf("Check(%s) is %v, %v; want %v, %v", say(p), got, e, spot, wanted)
	}
	all, e := Roles(p)
	if e != wanted || e != api.OK && all != nil || e == api.OK && !slices.Equal(all, plainRoles(p)) {
		t.Errorf("Roles(%s) is %s, %v; want %v", say(p), say(all), e, wanted)
	}
	for i, role := range all {
		if role.Derived != (role.Rules > 0) || role.Derived && role.Inputs+role.Facts > 0 || i > 0 && all[i-1].Pred >= role.Pred {
			t.Errorf("of %s stands %s at %d", say(p), say(role), i)
		}
	}
}

func wantLawsOfFacts(t testing.TB, p api.Program, l []api.Relation) {
	t.Helper()
	wanted := plainFacts(p, l)
	e := Facts(p, l)
	given, givenError := Given(p, l)
	constants, constantsError := Constants(p, l)
	if e != wanted || givenError != wanted || constantsError != wanted {
		t.Errorf("of %s and %s: Facts %v, Given %v, Constants %v; want %v", say(p), say(l), e, givenError, constantsError, wanted)
	}
	if wanted != api.OK {
		if given != nil || constants != nil {
			t.Errorf("of %s and %s, beside an error: %s, %q", say(p), say(l), say(given), constants)
		}
		return
	}
	if !sameRelations(given, plainGiven(p, l)) {
		t.Errorf("Given(%s, %s) is %s; want %s", say(p), say(l), say(given), say(plainGiven(p, l)))
	}
	if !slices.Equal(constants, plainConstants(p, l)) {
		t.Errorf("Constants(%s, %s) is %q; want %q", say(p), say(l), constants, plainConstants(p, l))
	}
	// What is given in all is facts again, of which the same is given; and no constant is new.
	if again, e := Given(p, given); e != api.OK || !sameRelations(again, given) {
		t.Errorf("of %s is given %s, and of that %s, %v", say(p), say(given), say(again), e)
	}
	if again, e := Constants(p, given); e != api.OK || !slices.Equal(again, constants) {
		t.Errorf("of %s and %s are the constants %q, of what is given %q, %v", say(p), say(l), constants, again, e)
	}
}

// copyProgram and the like copy all of it; lists without things are nil in the copy.
func copyProgram(p api.Program) api.Program {
	q := api.Program{Inputs: copyList(p.Inputs), Outputs: copyList(p.Outputs), Rules: copyList(p.Rules)}
	for i, r := range q.Rules {
		q.Rules[i] = copyRule(r)
	}
	return q
}

func copyRule(r api.Rule) api.Rule {
	q := api.Rule{Head: copyAtom(r.Head), Body: copyList(r.Body)}
	for i := range q.Body {
		q.Body[i].Atom = copyAtom(q.Body[i].Atom)
	}
	return q
}

func copyAtom(a api.Atom) api.Atom { return api.Atom{Pred: a.Pred, Args: copyList(a.Args)} }

func copyRelations(l []api.Relation) []api.Relation {
	q := copyList(l)
	for i := range q {
		q[i].Tuples = copyList(q[i].Tuples)
		for k := range q[i].Tuples {
			q[i].Tuples[k] = copyList(q[i].Tuples[k])
		}
	}
	return q
}

func copyList[T any](list []T) []T { return append([]T(nil), list...) }
