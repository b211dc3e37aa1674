package safe

import (
	"fmt"
	"reflect"
	"slices"
	"strings"
	"testing"

	"inkling/api"
	"inkling/parse"
)

func variable(text string) api.Term { return api.Term{Var: true, Text: text} }

func constant(text string) api.Term { return api.Term{Text: text} }

func atom(pred string, args ...api.Term) api.Atom { return api.Atom{Pred: pred, Args: args} }

func positive(a api.Atom) api.Literal { return api.Literal{Kind: api.Positive, Atom: a} }

func negative(a api.Atom) api.Literal { return api.Literal{Kind: api.Negative, Atom: a} }

func unlike(left, right api.Term) api.Literal {
	return api.Literal{Kind: api.Unlike, Left: left, Right: right}
}

func rule(head api.Atom, body ...api.Literal) api.Rule { return api.Rule{Head: head, Body: body} }

func rules(list ...api.Rule) api.Program { return api.Program{Rules: list} }

// say is a thing as a text, cut where it is long.
func say(x any) string {
	text := fmt.Sprintf("%+v", x)
	return text[:min(len(text), 600)]
}

// read is the rule of a text without its dot.
func read(t testing.TB, text string) api.Rule {
	t.Helper()
	r, at, e := parse.Rule(text + ".")
	if e != api.OK {
		t.Fatalf("%q is no rule's text: %d, %v", text, at, e)
	}
	return r
}

func readProgram(t testing.TB, text string) api.Program {
	t.Helper()
	p, _, at, e := parse.Program(text)
	if e != api.OK {
		t.Fatalf("%q is no program's text: %d, %v", text, at, e)
	}
	return p
}

// list is the texts that stand between blanks.
func list(text string) []string { return strings.Fields(text) }

func wantVars(t testing.TB, r api.Rule, vars, bound []string) {
	t.Helper()
	if got := Vars(r); !slices.Equal(got, vars) {
		t.Errorf("Vars(%s) is %q; want %q", say(r), got, vars)
	}
	if got := Bound(r.Body); !slices.Equal(got, bound) {
		t.Errorf("Bound of the body of %s is %q; want %q", say(r), got, bound)
	}
	wantLaws(t, r)
}

func wantSafe(t testing.TB, r api.Rule) {
	t.Helper()
	if name, ok := Rule(r); name != "" || !ok {
		t.Errorf("Rule(%s) is %q, %v; want none, true", say(r), name, ok)
	}
	wantLaws(t, r)
}

func wantLoose(t testing.TB, r api.Rule, wanted string) {
	t.Helper()
	if name, ok := Rule(r); name != wanted || ok {
		t.Errorf("Rule(%s) is %q, %v; want %q, false", say(r), name, ok, wanted)
	}
	wantLaws(t, r)
}

func wantCheck(t testing.TB, p api.Program, number int, name string, wanted api.Errno) {
	t.Helper()
	if i, n, e := Check(p); i != number || n != name || e != wanted {
		t.Errorf("Check(%s) is %d, %q, %v; want %d, %q, %v", say(p), i, n, e, number, name, wanted)
	}
	wantProgramLaws(t, p)
}

func wantFaults(t testing.TB, p api.Program, wanted ...api.Loose) {
	t.Helper()
	if got := Faults(p); !slices.Equal(got, wanted) {
		t.Errorf("Faults(%s) is %v; want %v", say(p), got, wanted)
	}
	wantProgramLaws(t, p)
}

func wantReady(t testing.TB, l api.Literal, bound []string, wanted bool) {
	t.Helper()
	if got := Ready(l, bound); got != wanted || plainReady(l, bound) != wanted {
		t.Errorf("Ready(%s, %q) is %v; want %v", say(l), bound, got, wanted)
	}
}

func wantWay(t testing.TB, r api.Rule, wanted ...int) {
	t.Helper()
	if way, ok := Way(r); !slices.Equal(way, wanted) || !ok {
		t.Errorf("Way(%s) is %v, %v; want %v, true", say(r), way, ok, wanted)
	}
	wantLaws(t, r)
}

func wantNoWay(t testing.TB, r api.Rule) {
	t.Helper()
	if way, ok := Way(r); way != nil || ok {
		t.Errorf("Way(%s) is %v, %v; want none, false", say(r), way, ok)
	}
	wantLaws(t, r)
}

// wantLaws holds what is promised of every rule.
func wantLaws(t testing.TB, r api.Rule) {
	t.Helper()
	before := copyRule(r)
	wantWordsOfRule(t, r)
	wantWordsOfWay(t, r)
	wantProgramLaws(t, rules(r))
	wantRenamed(t, r)
	wantMoreAndLess(t, r)
	if !reflect.DeepEqual(copyRule(r), before) {
		t.Errorf("what was handed in was\n%s; is\n%s", say(before), say(r))
	}
}

// wantWordsOfRule is about P12.1, P12.2.
func wantWordsOfRule(t testing.TB, r api.Rule) {
	t.Helper()
	if got := Vars(r); !slices.Equal(got, plainVars(r)) {
		t.Errorf("Vars(%s) is %q; want %q", say(r), got, plainVars(r))
	}
	if got := Bound(r.Body); !slices.Equal(got, plainBound(r.Body)) {
		t.Errorf("Bound of the body of %s is %q; want %q", say(r), got, plainBound(r.Body))
	}
	wanted := append(plainLoose(r), "")[0]
	if name, ok := Rule(r); name != wanted || ok != (len(plainLoose(r)) == 0) {
		t.Errorf("Rule(%s) is %q, %v; want %q", say(r), name, ok, plainLoose(r))
	}
}

// wantWordsOfWay is about P12.4, P12.5, and what P12.6 says of ways.
func wantWordsOfWay(t testing.TB, r api.Rule) {
	t.Helper()
	bound := plainBound(r.Body)
	all := true
	for _, l := range r.Body {
		for i := range len(bound) + 1 {
			wantReady(t, l, bound[:i], plainReady(l, bound[:i]))
			wantReady(t, l, bound[i:], plainReady(l, bound[i:]))
		}
		all = all && (plainReady(l, bound) || len(plainTerms(l)) == 0)
	}
	way, ok := Way(r)
	wanted, there := plainWay(r)
	if !slices.Equal(way, wanted) || ok != there || ok != all || !ok && way != nil {
		t.Errorf("Way(%s) is %v, %v; want %v, %v", say(r), way, ok, wanted, there)
	}
	var ahead []api.Literal
	for _, i := range way {
		if !Ready(r.Body[i], Bound(ahead)) {
			t.Errorf("in the way %v of %s the literal %d is not ready", way, say(r), i)
		}
		ahead = append(ahead, r.Body[i])
	}
	if sorted := slices.Sorted(slices.Values(way)); ok && !slices.Equal(sorted, plainLeft(r.Body)) {
		t.Errorf("in the way %v of %s not all stand once", way, say(r))
	}
}

// wantRenamed holds what is told of a rule against what is told of it with its variables renamed one to one, so that their order by bytes turns round.
func wantRenamed(t testing.TB, r api.Rule) {
	t.Helper()
	vars := Vars(r)
	slices.Sort(vars)
	rename := func(name string) string {
		return "R" + strings.Repeat("r", len(vars)-slices.Index(vars, name))
	}
	other := copyRule(r)
	for _, term := range termsOf(&other) {
		if term.Var && slices.Contains(vars, term.Text) {
			term.Text = rename(term.Text)
		}
	}
	renamed := func(names []string) []string {
		for i := range names {
			names[i] = rename(names[i])
		}
		return names
	}
	if got, wanted := Vars(other), renamed(Vars(r)); !slices.Equal(got, wanted) {
		t.Errorf("renamed, Vars(%s) is %q; want %q", say(r), got, wanted)
	}
	if got, wanted := Bound(other.Body), renamed(Bound(r.Body)); !slices.Equal(got, wanted) {
		t.Errorf("renamed, Bound of the body of %s is %q; want %q", say(r), got, wanted)
	}
	faults := Faults(rules(r))
	for i := range faults {
		faults[i].Name = rename(faults[i].Name)
	}
	if got := Faults(rules(other)); !slices.Equal(got, faults) {
		t.Errorf("renamed, Faults of %s is %v; want %v", say(r), got, faults)
	}
	way, ok := Way(r)
	if got, there := Way(other); !slices.Equal(got, way) || ok != there {
		t.Errorf("renamed, Way(%s) is %v, %v; want %v, %v", say(r), got, there, way, ok)
	}
}

// wantMoreAndLess: a rule stays safe with more positive literals, and with fewer others; the order of its literals does not turn that.
func wantMoreAndLess(t testing.TB, r api.Rule) {
	t.Helper()
	_, ok := Rule(r)
	isSafe := func(body ...api.Literal) bool {
		_, ok := Rule(rule(r.Head, body...))
		return ok
	}
	turned := slices.Clone(r.Body)
	slices.Reverse(turned)
	if isSafe(turned...) != ok {
		t.Errorf("%s is safe: %v; the other way round it is not so", say(r), ok)
	}
	if !ok {
		return
	}
	for i := range len(r.Body) + 1 {
		more := positive(atom("more", variable("More"), constant("a"), variable("X")))
		if !isSafe(slices.Insert(slices.Clone(r.Body), i, more)...) {
			t.Errorf("%s with one more at %d is not safe", say(r), i)
		}
		if i < len(r.Body) && r.Body[i].Kind != api.Positive && !isSafe(slices.Delete(slices.Clone(r.Body), i, i+1)...) {
			t.Errorf("%s without the literal %d is not safe", say(r), i)
		}
	}
	if !isSafe(slices.DeleteFunc(slices.Clone(r.Body), func(l api.Literal) bool { return l.Kind != api.Positive })...) {
		t.Errorf("%s with its positive literals alone is not safe", say(r))
	}
}

// wantProgramLaws holds what is promised of every program.
func wantProgramLaws(t testing.TB, p api.Program) {
	t.Helper()
	wanted := plainFaults(p)
	got := Faults(p)
	if !slices.Equal(got, wanted) {
		t.Errorf("Faults(%s) is %v; want %v", say(p), got, wanted)
	}
	i, name, e := Check(p)
	switch {
	case len(wanted) == 0:
		if i != 0 || name != "" || e != api.OK {
			t.Errorf("Check(%s) is %d, %q, %v", say(p), i, name, e)
		}
	case i != wanted[0].Rule || name != wanted[0].Name || e != api.ErrUnsafe:
		t.Errorf("Check(%s) is %d, %q, %v; want %v", say(p), i, name, e, wanted[0])
	}
	for i, r := range p.Rules {
		told := slices.ContainsFunc(got, func(l api.Loose) bool { return l.Rule == i })
		if _, ok := Rule(r); ok == told {
			t.Errorf("Rule(%s) is %v; of the faults are %v", say(r), ok, got)
		}
	}
}

// termsOf are all terms of a rule, those that a kind does not name, too.
func termsOf(r *api.Rule) []*api.Term {
	var all []*api.Term
	for i := range r.Head.Args {
		all = append(all, &r.Head.Args[i])
	}
	for i := range r.Body {
		l := &r.Body[i]
		for k := range l.Atom.Args {
			all = append(all, &l.Atom.Args[k])
		}
		all = append(all, &l.Left, &l.Right)
	}
	return all
}

// copyRule copies all of it; lists without things are nil in the copy.
func copyRule(r api.Rule) api.Rule {
	q := api.Rule{Head: copyAtom(r.Head), Body: copyList(r.Body)}
	for i := range q.Body {
		q.Body[i].Atom = copyAtom(q.Body[i].Atom)
	}
	return q
}

func copyAtom(a api.Atom) api.Atom { return api.Atom{Pred: a.Pred, Args: copyList(a.Args)} }

func copyList[T any](list []T) []T { return append([]T(nil), list...) }
