package roles

import (
	"math/rand"
	"reflect"
	"slices"
	"strings"
	"sync"
	"testing"
	"unsafe"

	"inkling/api"
	"inkling/facts"
	"inkling/parse"
	"inkling/print"
)

// tally counts how often each error was met, so that a test tells when it met too few.
type tally map[api.Errno]int

func (c tally) want(t *testing.T, least int, errors ...api.Errno) {
	t.Helper()
	for _, e := range errors {
		if c[e] < least {
			t.Errorf("%v was met %d times alone", e, c[e])
		}
	}
}

// All programs of up to three of these statements, with some lists of relations each.
func TestAllSmallPrograms(t *testing.T) {
	statements := []string{
		`input p/0 "f".`, `input q/1 "f".`, "output p/0.", "output q/1.", "p.", "q(a).", "q(X).", "q.", "p :- q(b).", "q(X) :- p.", "p :- not q(X).", "q(c) :- q(X), X != d.", `p :- r, "" != X.`, "r.",
	}
	lists := [][]api.Relation{relations(of("p", "")), relations(of("q", "a", "b")), relations(of("p", ""), of("q", "-", "c")), relations(of("q", "b", "a")), relations(of("r", ""))}
	checked, fits := tally{}, tally{}
	look := func(text string) {
		p := read(t, text)
		_, e := Check(p)
		checked[e]++
		for _, l := range lists {
			wantLaws(t, p, l)
			fits[Facts(p, l)]++
		}
	}
	for _, a := range statements {
		look(a)
		for _, b := range statements {
			look(a + b)
			for _, c := range statements {
				look(a + b + c)
			}
		}
	}
	checked.want(t, 300, api.OK, api.ErrArity, api.ErrMixed)
	fits.want(t, 300, api.OK, api.ErrProgram, api.ErrFacts)
}

// All lists of up to three of these relations.
func TestAllSmallLists(t *testing.T) {
	pool := []api.Relation{none("q", 1), of("q", "a"), of("q", "a", "b"), of("q", "b", "a"), of("q", "a", "a"), none("q", 0), of("r", ""), of("r", "", ""), of("r", "a"), of("s", "a b"), of("s", "a b", "b a"), of("p", "a"), of("u", "a"), of("", "")}
	p := read(t, "p(X) :- q(X), r, not s(X, X). r. q(b). s(X, Y).")
	fits := tally{}
	look := func(l ...api.Relation) {
		wantLaws(t, p, l)
		fits[Facts(p, l)]++
	}
	for _, a := range pool {
		look(a)
		for _, b := range pool {
			look(a, b)
			for _, c := range pool {
				look(a, b, c)
			}
		}
	}
	fits.want(t, 20, api.OK, api.ErrFacts)
}

// sample has statements, literals and terms of all sorts, and facts.
func sample() (api.Program, []api.Relation) {
	return api.Program{
		Inputs:  []api.Input{{Pred: "e", Arity: 2, File: "f"}, {Pred: "g", Arity: 0, File: "a b"}},
		Outputs: []api.Output{{Pred: "t", Arity: 2}, {Pred: "s", Arity: 1}},
		Rules: []api.Rule{
			rule(atom("t", variable("X"), constant("a")), positive(atom("e", variable("X"), constant(""))), negative(atom("s", variable("X"))), unlike(variable("X"), constant("1")), positive(atom("g"))),
			rule(atom("s", constant("a b"))),
			rule(atom("s", constant("c"))),
			rule(atom("u")),
		},
	}, relations(of("e", "a b", "b a"), of("g", ""), of("s", "a", "d"))
}

// slots are where a program's texts, numbers, kinds, bools and lists stand.
type slots struct {
	texts  []*string
	arity  []*int
	kinds  []*api.LitKind
	isVar  []*bool
	terms  []*[]api.Term
	bodies []*[]api.Literal
}

func slotsOf(p *api.Program) *slots {
	s := &slots{}
	for i := range p.Inputs {
		x := &p.Inputs[i]
		s.texts = append(s.texts, &x.Pred, &x.File)
		s.arity = append(s.arity, &x.Arity)
	}
	for i := range p.Outputs {
		x := &p.Outputs[i]
		s.texts = append(s.texts, &x.Pred)
		s.arity = append(s.arity, &x.Arity)
	}
	for i := range p.Rules {
		x := &p.Rules[i]
		s.atom(&x.Head)
		s.bodies = append(s.bodies, &x.Body)
		for j := range x.Body {
			l := &x.Body[j]
			s.kinds = append(s.kinds, &l.Kind)
			s.atom(&l.Atom)
			s.term(&l.Left)
			s.term(&l.Right)
		}
	}
	return s
}

func (s *slots) atom(a *api.Atom) {
	s.texts = append(s.texts, &a.Pred)
	s.terms = append(s.terms, &a.Args)
	for i := range a.Args {
		s.term(&a.Args[i])
	}
}

func (s *slots) term(t *api.Term) {
	s.texts = append(s.texts, &t.Text)
	s.isVar = append(s.isVar, &t.Var)
}

// changed are the programs that come of p by one change each.
func changed(p api.Program) []api.Program {
	var all []api.Program
	with := func(change func(s *slots)) {
		q := copyProgram(p)
		change(slotsOf(&q))
		all = append(all, q)
	}
	places := slotsOf(&p)
	texts := []string{"", "e", "g", "t", "s", "u", "new", "X", "1", "not", " ", "é", times(64, "a"), times(64, "X"), times(65, "a"), times(65, "X"), times(1024, "a"), times(1025, "a")}
	for i := range places.texts {
		for _, text := range texts {
			with(func(s *slots) { *s.texts[i] = text })
		}
	}
	for i := range places.arity {
		for arity := -2; arity < 20; arity++ {
			with(func(s *slots) { *s.arity[i] = arity })
		}
	}
	for i := range places.kinds {
		for kind := api.LitKind(-2); kind < 6; kind++ {
			with(func(s *slots) { *s.kinds[i] = kind })
		}
	}
	for i := range places.isVar {
		with(func(s *slots) { *s.isVar[i] = !*s.isVar[i] })
	}
	for i := range places.terms {
		for count := range 20 {
			with(func(s *slots) {
				*s.terms[i] = append(*s.terms[i], slices.Repeat([]api.Term{variable("X")}, count)...)[:max(count, 1)-1]
			})
		}
	}
	for i := range places.bodies {
		with(func(s *slots) { *s.bodies[i] = nil })
		with(func(s *slots) { *s.bodies[i] = append(*s.bodies[i], positive(atom("u"))) })
		with(func(s *slots) { *s.bodies[i] = append(*s.bodies[i], negative(atom("new", variable("X")))) })
		with(func(s *slots) { *s.bodies[i] = append(*s.bodies[i], unlike(constant("u"), constant(""))) })
	}
	return all
}

func TestProgramsThatDifferInOneThing(t *testing.T) {
	p, l := sample()
	wantLaws(t, p, l)
	checked := tally{}
	for _, q := range changed(p) {
		wantLaws(t, q, l)
		_, e := Check(q)
		checked[e]++
	}
	checked.want(t, 5, api.OK, api.ErrArg, api.ErrArity, api.ErrMixed)
}

// What is in form is just what print takes.
func TestInFormIsWhatPrintTakes(t *testing.T) {
	d := drawer{r: rand.New(rand.NewSource(111)), unformed: 25, arity: 5, mix: 5}
	count := 0
	for range 3000 {
		p := d.program(d.r.Intn(6))
		_, e := print.Program(p)
		if Formed(p) != (e == api.OK) {
			t.Errorf("Formed(%s) is %v; print says %v", say(p), Formed(p), e)
		}
		if e == api.OK {
			count++
		}
	}
	if count < 500 || count > 2500 {
		t.Errorf("%d of 3000 are in form", count)
	}
}

func TestDrawnPrograms(t *testing.T) {
	for seed, d := range []drawer{{}, {unformed: 80}, {arity: 40}, {mix: 12}, {unformed: 150, arity: 30, mix: 5}, {spoil: 12}} {
		d.r = rand.New(rand.NewSource(int64(112 + seed)))
		checked, fits := tally{}, tally{}
		for range 1200 {
			p := d.program(d.r.Intn(12))
			l := d.facts(p)
			wantLaws(t, p, l)
			_, e := Check(p)
			checked[e]++
			fits[Facts(p, l)]++
		}
		checked.want(t, 100, api.OK)
		switch {
		case d.unformed > 0 && d.arity > 0:
			checked.want(t, 100, api.ErrArg, api.ErrArity, api.ErrMixed)
		case d.unformed > 0:
			checked.want(t, 100, api.ErrArg)
		case d.arity > 0:
			checked.want(t, 100, api.ErrArity)
		case d.mix > 0:
			checked.want(t, 100, api.ErrMixed)
		case d.spoil > 0:
			fits.want(t, 100, api.OK, api.ErrFacts)
		case fits[api.OK] < 1200:
			t.Errorf("%d of 1200 are facts", fits[api.OK])
		}
	}
}

// Nothing that is told of a program, but where something is wrong, hangs on the order of its rules and of their literals.
func TestTheOrderOfRules(t *testing.T) {
	d := drawer{r: rand.New(rand.NewSource(120)), unformed: 400, arity: 100, mix: 50}
	for range 1000 {
		p := d.program(2 + d.r.Intn(9))
		l := d.facts(p)
		q := copyProgram(p)
		d.r.Shuffle(len(q.Rules), func(i, k int) { q.Rules[i], q.Rules[k] = q.Rules[k], q.Rules[i] })
		for _, r := range q.Rules {
			d.r.Shuffle(len(r.Body), func(i, k int) { r.Body[i], r.Body[k] = r.Body[k], r.Body[i] })
		}
		_, e := Check(p)
		if _, other := Check(q); other != e {
			t.Errorf("Check(%s) is %v, in another order %v", say(p), e, other)
		}
		roles, _ := Roles(p)
		given, _ := Given(p, l)
		constants, _ := Constants(p, l)
		otherRoles, _ := Roles(q)
		otherGiven, _ := Given(q, l)
		otherConstants, _ := Constants(q, l)
		if !slices.Equal(roles, otherRoles) || !sameRelations(given, otherGiven) || !slices.Equal(constants, otherConstants) {
			t.Errorf("%s tells other things in another order", say(p))
		}
	}
}

// The same again, always: a map's order is not to be seen.
func TestTheSameAgain(t *testing.T) {
	var statements []string
	for i := range 40 {
		pred := times(1+i%7, string(rune('a'+i%26))) + "x"
		statements = append(statements, pred+"(a"+times(i, "b")+").")
	}
	p := read(t, strings.Join(statements, " "))
	roles, _ := Roles(p)
	given, _ := Given(p, nil)
	constants, _ := Constants(p, nil)
	for range 50 {
		againRoles, _ := Roles(p)
		againGiven, _ := Given(p, nil)
		againConstants, _ := Constants(p, nil)
		if !slices.Equal(roles, againRoles) || !sameRelations(given, againGiven) || !slices.Equal(constants, againConstants) {
			t.Fatal("it is another answer")
		}
	}
}

// FuzzRoles holds a program's text with a file's text as the facts of one of its predicates, and with one change in form, against the document's words.
func FuzzRoles(f *testing.F) {
	f.Add("p(X) :- q(X, c). q(a, b). s(X).", "q", "b\tb", 2, 1)
	f.Add(`input q/1 "f". output p/1. p(X) :- q(X), not r. r.`, "r", "\n", 0, 3)
	f.Add("p(a). p(a, b).", "p", "", 1, 0)
	f.Add("p. p :- q, X != \"\".", "not", "a", 17, 2)
	f.Fuzz(func(t *testing.T, text, pred, file string, arity, kind int) {
		p, _, _, e := parse.Program(text)
		if e != api.OK || len(text) > 2000 || len(file) > 2000 {
			return
		}
		if !Formed(p) {
			t.Errorf("%q is parsed, and not in form", text)
		}
		var l []api.Relation
		for line := range strings.SplitSeq(file, "\n") {
			l = append(l, api.Relation{Pred: pred, Arity: arity, Tuples: [][]string{strings.Split(line, "\t")}})
		}
		wantLaws(t, p, l)
		wantLaws(t, p, l[:1])
		if tuples, _, e := facts.Read(file, arity); e == api.OK {
			if r, e := facts.Relation(pred, arity, tuples); e == api.OK {
				wantLaws(t, p, relations(r))
			}
		}
		p.Outputs = append(p.Outputs, api.Output{Pred: pred, Arity: arity})
		wantLaws(t, p, l[:1])
		p.Rules = append(p.Rules, rule(atom("p"), api.Literal{Kind: api.LitKind(kind), Atom: atom(pred), Right: constant(file)}))
		wantLaws(t, p, nil)
	})
}

// What is handed in stays as it was, and no answer hangs on it.

// roomy has the same things with spare room behind, in which other things stand.
func roomy[T any](list []T, other T) []T {
	room := append(slices.Clone(list), other, other, other)
	return room[:len(list)]
}

func roomyAtom(a api.Atom) api.Atom {
	return api.Atom{Pred: a.Pred, Args: roomy(a.Args, constant("spare"))}
}

func roomyProgram(p api.Program) api.Program {
	q := api.Program{Inputs: roomy(p.Inputs, api.Input{Pred: "SPARE"}), Outputs: roomy(p.Outputs, api.Output{Pred: "SPARE"}), Rules: roomy(p.Rules, rule(atom("SPARE")))}
	for i, r := range q.Rules {
		q.Rules[i] = api.Rule{Head: roomyAtom(r.Head), Body: roomy(r.Body, api.Literal{Kind: 99})}
		for j := range q.Rules[i].Body {
			q.Rules[i].Body[j].Atom = roomyAtom(r.Body[j].Atom)
		}
	}
	return q
}

func roomyRelations(l []api.Relation) []api.Relation {
	q := roomy(l, none("SPARE", 99))
	for i, r := range q {
		q[i].Tuples = roomy(r.Tuples, []string{"spare"})
		for k, tuple := range q[i].Tuples {
			q[i].Tuples[k] = roomy(tuple, "spare")
		}
	}
	return q
}

func whole[T any](list []T) []T { return slices.Clone(list[:cap(list)]) }

// withRoom is a copy of all of it, spare room included.
func withRoom(p api.Program, l []api.Relation) (api.Program, []api.Relation) {
	q := api.Program{Inputs: whole(p.Inputs), Outputs: whole(p.Outputs), Rules: whole(p.Rules)}
	for i, r := range q.Rules {
		q.Rules[i] = api.Rule{Head: api.Atom{Pred: r.Head.Pred, Args: whole(r.Head.Args)}, Body: whole(r.Body)}
		for j, x := range q.Rules[i].Body {
			q.Rules[i].Body[j].Atom.Args = whole(x.Atom.Args)
		}
	}
	m := whole(l)
	for i, r := range m {
		m[i].Tuples = whole(r.Tuples)
		for k, tuple := range m[i].Tuples {
			m[i].Tuples[k] = whole(tuple)
		}
	}
	return q, m
}

func TestWhatIsHandedInStays(t *testing.T) {
	p, l := sample()
	for _, q := range append(changed(p)[:400], p) {
		program, facts := roomyProgram(q), roomyRelations(l)
		before, factsBefore := withRoom(program, facts)
		wantLaws(t, program, facts)
		after, factsAfter := withRoom(program, facts)
		if !reflect.DeepEqual(after, before) || !reflect.DeepEqual(factsAfter, factsBefore) {
			t.Errorf("what was handed in was\n%s, %s; is\n%s, %s", say(before), say(factsBefore), say(after), say(factsAfter))
		}
	}
}

// textsOf are all texts of all answers of a program and its facts.
func textsOf(p api.Program, l []api.Relation) []string {
	spot, _ := Check(p)
	roles, _ := Roles(p)
	given, _ := Given(p, l)
	texts, _ := Constants(p, l)
	texts = append(texts, spot.Pred)
	for _, role := range roles {
		texts = append(texts, role.Pred)
	}
	for _, r := range given {
		texts = append(append(texts, r.Pred), slices.Concat(r.Tuples...)...)
	}
	return slices.DeleteFunc(texts, func(s string) bool { return s == "" })
}

// looseText is a text that lies in memory which can be written over.
func looseText(s string) (string, []byte) {
	memory := []byte(s)
	return unsafe.String(unsafe.SliceData(memory), len(memory)), memory
}

// An answer stays when the texts that were handed in are written over, and no two texts of answers lie in one place.
func TestTextsOfAnswersAreApart(t *testing.T) {
	for _, which := range []int{0, 1, 2} {
		given, memory := looseText("given")
		derived, more := looseText("derived")
		// The last two make a program of two arities, and one that is mixed.
		other := []string{"other", given, derived}[which]
		p := api.Program{
			Inputs:  []api.Input{{Pred: given, Arity: 2, File: given}},
			Outputs: []api.Output{{Pred: derived}, {Pred: given, Arity: 2}},
			Rules:   []api.Rule{rule(atom(derived), positive(atom(given, constant(given), constant(given)))), rule(atom(given, constant(given), constant(given))), rule(atom(other))},
		}
		l := relations(api.Relation{Pred: given, Arity: 2, Tuples: [][]string{{given, derived}, {given, given}}})
		texts, wanted := textsOf(p, l), textsOf(copyProgram(p), l)
		for i := range wanted {
			wanted[i] = strings.Clone(wanted[i])
		}
		if least := []int{10, 1, 1}[which]; len(texts) < least {
			t.Errorf("with %q there are %q", other, texts)
		}
		all := slices.Concat(texts, []string{given, derived})
		for i, a := range all {
			for _, b := range all[:i] {
				if unsafe.StringData(a) == unsafe.StringData(b) {
					t.Errorf("with %q, of %q two share memory: %q", other, texts, a)
				}
			}
		}
		clear(memory)
		clear(more)
		if !slices.Equal(texts, wanted) {
			t.Errorf("with %q it was %q; is %q", other, wanted, texts)
		}
	}
}

// scribble writes over all of an answer, spare room included.
func scribble(l []api.Relation) {
	for _, r := range l {
		for _, tuple := range r.Tuples {
			for i := range tuple[:cap(tuple)] {
				tuple[:cap(tuple)][i] = "?"
			}
		}
		for i := range r.Tuples[:cap(r.Tuples)] {
			r.Tuples[:cap(r.Tuples)][i] = []string{"?"}
		}
	}
	for i := range l[:cap(l)] {
		l[:cap(l)][i] = none("?", 99)
	}
}

func TestListsOfAnswersAreApart(t *testing.T) {
	p, l := sample()
	wanted := copyRelations(plainGiven(p, l))
	first, _ := Given(p, l)
	second, _ := Given(p, l)
	scribble(first)
	if !sameRelations(second, wanted) {
		t.Errorf("%s beside an answer that was changed", say(second))
	}
	for i := range second {
		for k := range second[i].Tuples {
			before := copyRelations(second)
			scribble([]api.Relation{{Tuples: second[i].Tuples[k : k+1 : k+1]}})
			before[i].Tuples[k] = []string{"?"}
			if !sameRelations(second, before) {
				t.Errorf("%s behind a change of the tuple %d of %d; want %s", say(second), k, i, say(before))
			}
		}
	}
	roles, _ := Roles(p)
	constants, _ := Constants(p, l)
	clear(roles[:cap(roles)])
	clear(constants[:cap(constants)])
	wantLaws(t, p, l)
	if again, facts := sample(); !reflect.DeepEqual(p, again) || !sameRelations(l, facts) {
		t.Errorf("what was handed in is %s, %s", say(p), say(l))
	}
}

// Nothing is kept from call to call, so any number may call at once (go test -race would tell).
func TestManyCallAtOnce(t *testing.T) {
	p, l := sample()
	p, l = roomyProgram(p), roomyRelations(l)
	var all sync.WaitGroup
	for range 8 {
		all.Go(func() { wantLaws(t, p, l) })
	}
	all.Wait()
}
