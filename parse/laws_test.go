package parse

import (
	"fmt"
	"reflect"
	"slices"
	"strconv"
	"strings"
	"testing"

	"inkling/api"
	"inkling/lex"
)

func times(count int, text string) string { return strings.Repeat(text, count) }

// rule is of terms and literals that are told shortly below.
func rule(head api.Atom, body ...api.Literal) api.Rule { return api.Rule{Head: head, Body: body} }

func atom(pred string, args ...api.Term) api.Atom { return api.Atom{Pred: pred, Args: args} }

func constant(text string) api.Term { return api.Term{Text: text} }

func variable(text string) api.Term { return api.Term{Var: true, Text: text} }

func positive(a api.Atom) api.Literal { return api.Literal{Kind: api.Positive, Atom: a} }

func negative(a api.Atom) api.Literal { return api.Literal{Kind: api.Negative, Atom: a} }

func unlike(left, right api.Term) api.Literal {
	return api.Literal{Kind: api.Unlike, Left: left, Right: right}
}

// wantProgram is of a program's text.
func wantProgram(t testing.TB, text string, program api.Program, places api.Places) {
	t.Helper()
	p, q, at, e := Program(text)
	if !reflect.DeepEqual(p, program) || !reflect.DeepEqual(q, places) || at != 0 || e != api.OK {
		t.Errorf("Program(%q) is\n%+v, %v, %d, %v; want\n%+v, %v", text, p, q, at, e, program, places)
	}
	wantLaws(t, text)
}

// wantRule is of a rule's text, whose first token stands at a place.
func wantRule(t testing.TB, text string, at int, want api.Rule) {
	t.Helper()
	r, stop, e := Rule(text)
	if !reflect.DeepEqual(r, want) || stop != 0 || e != api.OK {
		t.Errorf("Rule(%q) is\n%+v, %d, %v; want\n%+v", text, r, stop, e, want)
	}
	wantProgram(t, text, api.Program{Rules: []api.Rule{want}}, api.Places{Rules: []int{at}})
}

// wantStop is of a text that is no program's.
func wantStop(t testing.TB, text string, offset int) {
	t.Helper()
	if p, q, at, e := Program(text); !reflect.DeepEqual(p, api.Program{}) || !reflect.DeepEqual(q, api.Places{}) || at != offset || e != api.ErrSyntax {
		t.Errorf("Program(%q) is %+v, %v, %d, %v; want the offset %d", text, p, q, at, e, offset)
	}
	if got := Begins(text); got != (offset == len(text)) {
		t.Errorf("Begins(%q) is %v", text, got)
	}
	wantLaws(t, text)
}

// wantNoRule is of a text that is no rule's.
func wantNoRule(t testing.TB, text string, offset int) {
	t.Helper()
	if r, at, e := Rule(text); !reflect.DeepEqual(r, api.Rule{}) || at != offset || e != api.ErrSyntax {
		t.Errorf("Rule(%q) is %+v, %d, %v; want the offset %d", text, r, at, e, offset)
	}
	wantLaws(t, text)
}

// wantLaws holds what is promised of every text: the offsets by the document's grammar, and what P8.4 says.
func wantLaws(t testing.TB, text string) {
	t.Helper()
	program, places, at, e := Program(text)
	far, whole := plainProgram(text)
	switch {
	case whole && (e != api.OK || at != 0):
		t.Errorf("Program(%q) is %d, %v; it is a program's text", text, at, e)
	case !whole && (e != api.ErrSyntax || at != far):
		t.Errorf("Program(%q) is %d, %v; want the offset %d", text, at, e, far)
	case whole:
		wantSaid(t, text, program, places)
		wantInForm(t, text, program)
	case !reflect.DeepEqual(program, api.Program{}) || !reflect.DeepEqual(places, api.Places{}):
		t.Errorf("Program(%q) is %+v, %v beside an error", text, program, places)
	}
	if got := Begins(text); got != (far == len(text)) {
		t.Errorf("Begins(%q) is %v", text, got)
	}
	if !Begins(text[:far]) || far < len(text) && Begins(text[:far+1]) {
		t.Errorf("%q: up to %d it begins: %v", text, far, Begins(text[:far]))
	}
	wantRuleLaws(t, text, program, e)
}

func wantRuleLaws(t testing.TB, text string, program api.Program, programError api.Errno) {
	t.Helper()
	r, at, e := Rule(text)
	far, whole := plainRuleText(text)
	if !whole {
		if e != api.ErrSyntax || at != far || !reflect.DeepEqual(r, api.Rule{}) {
			t.Errorf("Rule(%q) is %+v, %d, %v; want the offset %d", text, r, at, e, far)
		}
		return
	}
	if e != api.OK || at != 0 || programError != api.OK || !reflect.DeepEqual(program, api.Program{Rules: []api.Rule{r}}) {
		t.Errorf("Rule(%q) is %+v, %d, %v; Program %+v, %v", text, r, at, e, program, programError)
	}
}

// said is a statement as tokens, and where it begins.
type said struct {
	at     int
	tokens []string
}

// wantSaid: what was read, said token by token in the order of the places, is what the text says.
func wantSaid(t testing.TB, text string, program api.Program, places api.Places) {
	t.Helper()
	if len(places.Inputs) != len(program.Inputs) || len(places.Outputs) != len(program.Outputs) || len(places.Rules) != len(program.Rules) {
		t.Errorf("Program(%q) is %+v with the places %v", text, program, places)
		return
	}
	var all []said
	for i, x := range program.Inputs {
		all = append(all, said{places.Inputs[i], []string{"input", x.Pred, "/", strconv.Itoa(x.Arity), x.File}})
	}
	for i, x := range program.Outputs {
		all = append(all, said{places.Outputs[i], []string{"output", x.Pred, "/", strconv.Itoa(x.Arity)}})
	}
	for i, x := range program.Rules {
		all = append(all, said{places.Rules[i], sayRule(x)})
	}
	slices.SortFunc(all, func(a, b said) int { return a.at - b.at })
	var got, wanted []string
	for _, x := range all {
		got = append(append(append(got, fmt.Sprint("from ", x.at)), x.tokens...), ".")
	}
	first := true
	list, _, _, _ := lex.Tokens(text)
	for _, x := range list {
		if first {
			wanted = append(wanted, fmt.Sprint("from ", x.At))
		}
		wanted = append(wanted, sayToken(x))
		first = x.Kind == api.TokDot
	}
	if !slices.Equal(got, wanted) {
		t.Errorf("Program(%q) says\n%q; want\n%q", text, got, wanted)
	}
	if !slices.IsSorted(places.Inputs) || !slices.IsSorted(places.Outputs) || !slices.IsSorted(places.Rules) {
		t.Errorf("Program(%q) has the places %v", text, places)
	}
}

func sayToken(x api.Token) string {
	switch x.Kind {
	case api.TokName, api.TokNumber, api.TokString:
		return x.Text
	case api.TokVariable:
		return "variable " + x.Text
	}
	return []string{"input", "output", "not", "(", ")", ",", ".", "/", ":-", "!="}[x.Kind-api.TokInput]
}

func sayTerm(x api.Term) string {
	if x.Var {
		return "variable " + x.Text
	}
	return x.Text
}

func sayAtom(x api.Atom) []string {
	l := []string{x.Pred}
	for i, a := range x.Args {
		l = append(l, []string{"(", ","}[min(i, 1)], sayTerm(a))
	}
	if len(x.Args) > 0 {
		l = append(l, ")")
	}
	return l
}

func sayRule(x api.Rule) []string {
	l := sayAtom(x.Head)
	for i, y := range x.Body {
		l = append(l, []string{":-", ","}[min(i, 1)])
		switch y.Kind {
		case api.Positive:
			l = append(l, sayAtom(y.Atom)...)
		case api.Negative:
			l = append(append(l, "not"), sayAtom(y.Atom)...)
		case api.Unlike:
			l = append(l, sayTerm(y.Left), "!=", sayTerm(y.Right))
		}
	}
	return l
}

// wantInForm holds DOC.md's words against what was read.
func wantInForm(t testing.TB, text string, p api.Program) {
	t.Helper()
	ok := true
	for _, x := range p.Inputs {
		ok = ok && lex.Name(x.Pred) && x.Arity >= 0 && x.Arity <= 16 && len(x.File) <= 1024
	}
	for _, x := range p.Outputs {
		ok = ok && lex.Name(x.Pred) && x.Arity >= 0 && x.Arity <= 16
	}
	for _, x := range p.Rules {
		ok = ok && atomInForm(x.Head) && len(x.Body) <= 256
		for _, y := range x.Body {
			switch y.Kind {
			case api.Positive, api.Negative:
				ok = ok && atomInForm(y.Atom) && y.Left == api.Term{} && y.Right == api.Term{}
			case api.Unlike:
				ok = ok && termInForm(y.Left) && termInForm(y.Right) && y.Atom.Pred == "" && len(y.Atom.Args) == 0
			default:
				ok = false
			}
		}
	}
	if !ok {
		t.Errorf("Program(%q) is not in form: %+v", text, p)
	}
}

func atomInForm(x api.Atom) bool {
	ok := lex.Name(x.Pred) && len(x.Args) <= 16
	for _, a := range x.Args {
		ok = ok && termInForm(a)
	}
	return ok
}

func termInForm(x api.Term) bool {
	if x.Var {
		return lex.Variable(x.Text)
	}
	return len(x.Text) <= 1024
}
