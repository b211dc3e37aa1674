package print

import (
	"math/rand"
	"reflect"
	"slices"
	"strings"
	"testing"
	"unsafe"

	"inkling/api"
	"inkling/parse"
)

// P9.3

// sample has statements, literals and terms of all sorts.
func sample() api.Program {
	return api.Program{
		Inputs:  []api.Input{{Pred: "e", Arity: 2, File: "f"}, {Pred: "g", Arity: 0, File: "a b"}},
		Outputs: []api.Output{{Pred: "t", Arity: 2}, {Pred: "s", Arity: 1}},
		Rules: []api.Rule{
			rule(atom("t", variable("X"), constant("a")), positive(atom("e", variable("X"), constant(""))), negative(atom("s", variable("X"))), unlike(variable("X"), constant("1")), positive(atom("g"))),
			rule(atom("s", constant("a b"))),
			rule(atom("u")),
		},
	}
}

// slots are where a program's texts, numbers, kinds and bools stand.
type slots struct {
	texts  []*string
	arity  []*int
	kinds  []*api.LitKind
	isVar  []*bool
	terms  []*[]api.Term
	bodies []*[]api.Literal
}

func slotsOf(p *api.Program) *slots {
	s := &slots{}
	for i := range p.Inputs {
		x := &p.Inputs[i]
		s.texts = append(s.texts, &x.Pred, &x.File)
		s.arity = append(s.arity, &x.Arity)
	}
	for i := range p.Outputs {
		x := &p.Outputs[i]
		s.texts = append(s.texts, &x.Pred)
		s.arity = append(s.arity, &x.Arity)
	}
	for i := range p.Rules {
		x := &p.Rules[i]
		s.atom(&x.Head)
		s.bodies = append(s.bodies, &x.Body)
		for j := range x.Body {
			l := &x.Body[j]
			s.kinds = append(s.kinds, &l.Kind)
			s.atom(&l.Atom)
			s.term(&l.Left)
			s.term(&l.Right)
		}
	}
	return s
}

func (s *slots) atom(a *api.Atom) {
	s.texts = append(s.texts, &a.Pred)
	s.terms = append(s.terms, &a.Args)
	for i := range a.Args {
		s.term(&a.Args[i])
	}
}

func (s *slots) term(t *api.Term) {
	s.texts = append(s.texts, &t.Text)
	s.isVar = append(s.isVar, &t.Var)
}

// changed are the programs that come of p by one change each, in form or not.
func changed(p api.Program) []api.Program {
	var all []api.Program
	with := func(change func(q *api.Program, s *slots)) {
		q := copyProgram(p)
		change(&q, slotsOf(&q))
		all = append(all, q)
	}
	places := slotsOf(&p)
	texts := []string{"", "a", "b", "aa", "X", "Y", "1", "01", "not", "nota", "input", "_", " ", "a ", " a", "a,", `"`, `\`, `\n`, "\n", `""`, "a)", "a, b", "a != b", "é", "\x00", times(64, "a"), times(64, "b"), times(64, "X"), times(65, "a"), times(65, "X"), times(1024, "a"), times(1025, "a")}
	for i := range places.texts {
		for _, text := range texts {
			with(func(_ *api.Program, s *slots) { *s.texts[i] = text })
		}
	}
	for i := range places.arity {
		for arity := -2; arity < 20; arity++ {
			with(func(_ *api.Program, s *slots) { *s.arity[i] = arity })
		}
	}
	for i := range places.kinds {
		for kind := api.LitKind(-2); kind < 6; kind++ {
			with(func(_ *api.Program, s *slots) { *s.kinds[i] = kind })
		}
	}
	for i := range places.isVar {
		with(func(_ *api.Program, s *slots) { *s.isVar[i] = !*s.isVar[i] })
	}
	for i := range places.terms {
		for _, change := range listChanges(len(*places.terms[i]), constant("n")) {
			with(func(_ *api.Program, s *slots) { *s.terms[i] = change(*s.terms[i]) })
		}
	}
	for i := range places.bodies {
		for _, change := range listChanges(len(*places.bodies[i]), positive(atom("n"))) {
			with(func(_ *api.Program, s *slots) { *s.bodies[i] = change(*s.bodies[i]) })
		}
	}
	for _, change := range listChanges(len(p.Inputs), api.Input{Pred: "n", File: "n"}) {
		with(func(q *api.Program, _ *slots) { q.Inputs = change(q.Inputs) })
	}
	for _, change := range listChanges(len(p.Outputs), api.Output{Pred: "n"}) {
		with(func(q *api.Program, _ *slots) { q.Outputs = change(q.Outputs) })
	}
	for _, change := range listChanges(len(p.Rules), rule(atom("n"))) {
		with(func(q *api.Program, _ *slots) { q.Rules = change(q.Rules) })
	}
	return all
}

// listChanges leave one thing of a list out, say it twice, put one in, put two in the place of one another.
func listChanges[T any](length int, more T) []func([]T) []T {
	var all []func([]T) []T
	for i := range length + 1 {
		all = append(all, func(l []T) []T { return slices.Insert(l, i, more) })
		if i == length {
			break
		}
		all = append(all,
			func(l []T) []T { return slices.Delete(l, i, i+1) },
			func(l []T) []T { return slices.Insert(l, i, l[i]) },
			func(l []T) []T {
				j := (i + 1) % length
				l[i], l[j] = l[j], l[i]
				return l
			})
	}
	return all
}

// distinct keeps what was printed, to find two programs of one text.
type distinct map[string]api.Program

func (d distinct) want(t testing.TB, p api.Program) {
	t.Helper()
	text, e := Program(p)
	if e != api.OK {
		return
	}
	p = copyProgram(p)
	if other, ok := d[text]; ok && !reflect.DeepEqual(other, p) {
		t.Errorf("%q is the text of\n%#v and of\n%#v", text, other, p)
	}
	d[text] = p
}

func TestProgramsThatDifferInOneThing(t *testing.T) {
	seen := distinct{}
	seen.want(t, sample())
	good, bad := 0, 0
	for _, p := range changed(sample()) {
		wantLaws(t, p)
		seen.want(t, p)
		if _, e := Program(p); e == api.OK {
			good++
		} else {
			bad++
		}
	}
	if good < 200 || bad < 200 {
		t.Errorf("%d are in form, %d are not", good, bad)
	}
}

// All small rules over terms whose texts could be mistaken for one another's.
func TestAllSmallRulesHaveTextsOfTheirOwn(t *testing.T) {
	terms := []api.Term{variable("X"), constant("X"), constant("a"), constant(""), constant("not"), constant("1"), constant(`"`), constant("a, X"), constant(`a", "X`), constant("a) :- q(X")}
	var atoms []api.Atom
	for _, pred := range []string{"p", "nota"} {
		atoms = append(atoms, atom(pred))
		for _, x := range terms {
			atoms = append(atoms, atom(pred, x))
			for _, y := range terms {
				atoms = append(atoms, atom(pred, x, y))
			}
		}
	}
	var literals []api.Literal
	for _, a := range atoms {
		literals = append(literals, positive(a), negative(a))
	}
	for _, x := range terms {
		for _, y := range terms {
			literals = append(literals, unlike(x, y))
		}
	}
	seen := map[string]bool{}
	count := 0
	see := func(r api.Rule) {
		text, e := Rule(r)
		if e != api.OK || seen[text] {
			t.Errorf("%#v is %q, %v, which was there", r, text, e)
		}
		seen[text] = true
		count++
	}
	for _, head := range atoms {
		see(rule(head))
		for _, l := range literals {
			see(rule(head, l))
		}
	}
	for _, x := range literals {
		wantLaws(t, ofLiteral(x))
		for _, y := range literals {
			see(rule(atom("p"), x, y))
		}
	}
	if len(seen) != count {
		t.Errorf("%d rules have %d texts", count, len(seen))
	}
}

func TestDrawnProgramsInForm(t *testing.T) {
	seen := distinct{}
	d := drawer{r: rand.New(rand.NewSource(91))}
	for range 3000 {
		p := d.program(d.r.Intn(6))
		if _, e := Program(p); e != api.OK {
			t.Fatalf("%#v is %v", p, e)
		}
		wantLaws(t, p)
		seen.want(t, p)
	}
}

func TestDrawnProgramsThatMayNotBeInForm(t *testing.T) {
	d := drawer{r: rand.New(rand.NewSource(92)), bad: 40}
	good, bad := 0, 0
	for range 6000 {
		p := d.program(d.r.Intn(5))
		wantLaws(t, p)
		if _, e := Program(p); e == api.OK {
			good++
		} else {
			bad++
		}
	}
	if good < 500 || bad < 500 {
		t.Errorf("%d are in form, %d are not", good, bad)
	}
}

// Texts that were not printed here come to the one way.
func TestParsedTexts(t *testing.T) {
	for text, wanted := range map[string]string{
		"":                              "",
		" % a remark":                   "",
		"p:-q,not r,X!=5.":              "p :- q, not r, X != 5.\n",
		"output p / 0 .input p/16\"\".": "input p/16 \"\".\noutput p/0.\n",
		"p(\"a\", \"\\x61\", a, \"1\", \"\\x0a\", \"X\").":      "p(a, a, a, 1, \"\\n\", \"X\").\n",
		"p. output p/0. q. input r/1 \"f\".\noutput q/0. p:-q.": "input r/1 \"f\".\noutput p/0.\noutput q/0.\np.\nq.\np :- q.\n",
	} {
		p, _, _, e := parse.Program(text)
		if e != api.OK {
			t.Fatalf("%q is %v", text, e)
		}
		wantProgram(t, p, wanted)
	}
}

// A rule's text goes with any program's text.
func TestARuleBehindAProgram(t *testing.T) {
	d := drawer{r: rand.New(rand.NewSource(93))}
	for range 500 {
		p, r := d.program(d.r.Intn(4)), d.rule()
		whole, _ := Program(p)
		text, e := Rule(r)
		if e != api.OK {
			t.Fatalf("%#v is %v", r, e)
		}
		ahead, _, _, _ := parse.Program(text + whole)
		behind, _, _, _ := parse.Program(whole + text)
		p = copyProgram(p)
		if !reflect.DeepEqual(ahead.Rules, copyProgram(api.Program{Rules: append([]api.Rule{r}, p.Rules...)}).Rules) || !reflect.DeepEqual(ahead.Inputs, p.Inputs) {
			t.Errorf("%q ahead of %q is %#v", text, whole, ahead)
		}
		p.Rules = append(p.Rules, copyRule(r))
		if !reflect.DeepEqual(behind, p) {
			t.Errorf("%q behind %q is %#v", text, whole, behind)
		}
		if longer, e := Program(p); longer != whole+text+"\n" || e != api.OK {
			t.Errorf("with the rule %q it is %q, %v", text, longer, e)
		}
	}
}

func FuzzProgram(f *testing.F) {
	f.Add("input e/2 \"f\\x0a\". output p/1. p(X) :- not q, X != 01.", "a b", 1, 2)
	f.Add("p(\"X\", \"not\", \"\").", "", 0, -1)
	f.Add("p:-q.", "not", 3, 17)
	f.Add("", times(65, "a"), 2, 16)
	f.Fuzz(func(t *testing.T, text, s string, kind, arity int) {
		wantPlainText(t, text)
		wantPlainText(t, s)
		if p, _, _, e := parse.Program(text); e == api.OK {
			if _, e := Program(p); e != api.OK {
				t.Errorf("%q is parsed, and printed as %v", text, e)
			}
			wantLaws(t, p)
		}
		for _, x := range []api.Term{variable(s), constant(s), variable(text), constant(text)} {
			wantLaws(t, ofTerm(x))
			wantLaws(t, ofLiteral(api.Literal{Kind: api.LitKind(kind), Left: x, Right: constant(s)}))
			wantLaws(t, ofLiteral(api.Literal{Kind: api.LitKind(kind), Atom: atom(s, x)}))
		}
		wantLaws(t, ofAtom(atom(s, make([]api.Term, max(0, arity%20))...)))
		wantLaws(t, api.Program{Inputs: []api.Input{{Pred: "p", Arity: arity, File: s}}})
		wantLaws(t, api.Program{Inputs: []api.Input{{Pred: s, Arity: arity, File: text}}})
		wantLaws(t, api.Program{Outputs: []api.Output{{Pred: s, Arity: arity}}})
	})
}

// What is handed in stays as it was, and no answer hangs on it.

// roomy has the same things with spare room behind, in which other things stand.
func roomy[T any](list []T, other T) []T {
	room := append(slices.Clone(list), other, other, other)
	return room[:len(list)]
}

func roomyAtom(a api.Atom) api.Atom {
	return api.Atom{Pred: a.Pred, Args: roomy(a.Args, variable("spare"))}
}

func roomyProgram(p api.Program) api.Program {
	q := api.Program{
		Inputs:  roomy(p.Inputs, api.Input{Pred: "SPARE", Arity: 99}),
		Outputs: roomy(p.Outputs, api.Output{Pred: "SPARE", Arity: 99}),
		Rules:   roomy(p.Rules, rule(atom("SPARE"))),
	}
	for i, r := range q.Rules {
		q.Rules[i] = api.Rule{Head: roomyAtom(r.Head), Body: roomy(r.Body, api.Literal{Kind: 99})}
		for j := range q.Rules[i].Body {
			q.Rules[i].Body[j].Atom = roomyAtom(r.Body[j].Atom)
		}
	}
	return q
}

// withRoom is all of a program, its spare room too.
func withRoom(p api.Program) api.Program {
	q := api.Program{Inputs: p.Inputs[:cap(p.Inputs)], Outputs: p.Outputs[:cap(p.Outputs)], Rules: slices.Clone(p.Rules[:cap(p.Rules)])}
	for i, r := range q.Rules {
		body := slices.Clone(r.Body[:cap(r.Body)])
		for j := range body {
			body[j].Atom.Args = body[j].Atom.Args[:cap(body[j].Atom.Args)]
		}
		q.Rules[i] = api.Rule{Head: api.Atom{Pred: r.Head.Pred, Args: r.Head.Args[:cap(r.Head.Args)]}, Body: body}
	}
	return q
}

func TestWhatIsHandedInStays(t *testing.T) {
	bad := sample()
	bad.Rules[2].Head.Pred = "X"
	for _, p := range []api.Program{sample(), bad, {}, {Rules: []api.Rule{{}}}} {
		wanted, e := Program(p)
		given := roomyProgram(p)
		before := copyProgram(withRoom(given))
		if text, again := Program(given); text != wanted || again != e {
			t.Errorf("with spare room it is %q, %v; want %q, %v", text, again, wanted, e)
		}
		for _, r := range given.Rules {
			Rule(r)
			Atom(r.Head)
			for _, l := range r.Body {
				Literal(l)
			}
		}
		if after := copyProgram(withRoom(given)); !reflect.DeepEqual(after, before) {
			t.Errorf("what was handed in was\n%#v; is\n%#v", before, after)
		}
	}
}

// loose is a text that lies in memory which can be written over.
func loose(s string) (string, []byte) {
	memory := []byte(s)
	return unsafe.String(unsafe.SliceData(memory), len(memory)), memory
}

// overlap tells whether two texts have memory in common.
func overlap(a, b string) bool {
	if a == "" || b == "" {
		return false
	}
	x, y := uintptr(unsafe.Pointer(unsafe.StringData(a))), uintptr(unsafe.Pointer(unsafe.StringData(b)))
	return x < y+uintptr(len(b)) && y < x+uintptr(len(a))
}

// wantFree: an answer stays when the text that it was made of is written over, and no two answers lie in one place.
func wantFree(t *testing.T, s string, answer func(s string) string) {
	t.Helper()
	text, memory := loose(s)
	one, two := answer(text), answer(text)
	if one == "" || one != two || overlap(one, text) || overlap(one, two) {
		t.Errorf("of %q: %q and %q share memory", s, one, two)
	}
	wanted := strings.Clone(one)
	clear(memory)
	if one != wanted || two != wanted {
		t.Errorf("of %q: %q is now %q", s, wanted, one)
	}
}

func TestAnswersHangOnNothing(t *testing.T) {
	for _, s := range []string{"a", "abc", "007", "X", "not", "a b", times(1024, "a"), times(64, "b")} {
		wantFree(t, s, Quote)
		wantFree(t, s, func(s string) string { text, _ := Term(constant(s)); return text })
		wantFree(t, s, func(s string) string { text, _ := Literal(unlike(constant(s), constant(s))); return text })
		wantFree(t, s, func(s string) string {
			text, _ := Program(api.Program{Inputs: []api.Input{{Pred: "p", File: s}}})
			return text
		})
	}
	wantFree(t, "X", func(s string) string { text, _ := Term(variable(s)); return text })
	wantFree(t, "p", func(s string) string { text, _ := Atom(atom(s)); return text })
	wantFree(t, "p", func(s string) string { text, _ := Literal(positive(atom(s))); return text })
	wantFree(t, "p", func(s string) string { text, _ := Rule(rule(atom(s))); return text })
	wantFree(t, "p", func(s string) string {
		text, _ := Program(api.Program{Outputs: []api.Output{{Pred: s}}})
		return text
	})
	wantFree(t, times(5000, "a"), Quote)
}

// Lists that are changed behind a call change nothing of its answer, but the next one.
func TestListsThatAreChangedAfterwards(t *testing.T) {
	p := sample()
	text, _ := Program(p)
	wanted := strings.Clone(text)
	p.Inputs[0].File = "other"
	p.Rules[0].Head.Args[0] = constant("other")
	p.Rules[0].Body[0].Kind = api.Negative
	if text != wanted {
		t.Errorf("it was %q; is %q", wanted, text)
	}
	wantLaws(t, p)
	if now, e := Program(p); now == wanted || e != api.OK {
		t.Errorf("it is still %q, %v", now, e)
	}
	p.Rules[0].Body[0].Kind = 4
	wantNoProgram(t, p)
	p.Rules[0].Body[0].Kind = api.Positive
	wantLaws(t, p)
	if again, _ := Program(sample()); again != wanted {
		t.Errorf("it is now %q", again)
	}
}
