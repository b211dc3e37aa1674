package normal

import (
	"math/rand"
	"reflect"
	"slices"
	"strings"
	"sync"
	"testing"
	"unsafe"

	"inkling/api"
	"inkling/parse"
	"inkling/strata"
)

// tally counts pairs of rules, so that a test tells when it met too few of some sort.
type tally struct{ alike, both, one, none int }

func (c *tally) look(t testing.TB, a, b api.Rule) {
	t.Helper()
	wantPairLaws(t, a, b)
	switch first, second := Covers(a, b), Covers(b, a); {
	case Alike(a, b):
		c.alike++
	case first && second:
		c.both++
	case first || second:
		c.one++
	default:
		c.none++
	}
}

func (c *tally) want(t testing.TB, least int) {
	t.Helper()
	if min(c.alike, c.both, c.one, c.none) < least {
		t.Errorf("alike %d; cover one another %d; one covers the other %d; none does %d", c.alike, c.both, c.one, c.none)
	}
}

// All rules of up to two of these literals, with three heads, in pairs.
func TestAllPairsOfSmallRules(t *testing.T) {
	pool := []api.Literal{
		positive("q", "X", "Y"), positive("q", "Y", "X"), positive("q", "X", "X"), positive("q", "Z", "Y"), positive("q", "a", "X"),
		negative("q", "X", "Y"), unlike("X", "Y"), unlike("a", "Y"),
	}
	var all []api.Rule
	for _, head := range []api.Atom{atom("p", "X"), atom("p", "Y"), atom("p", "a")} {
		all = append(all, rule(head))
		for i, first := range pool {
			all = append(all, rule(head, first))
			for _, second := range pool[i:] {
				all = append(all, rule(head, second, first))
			}
		}
	}
	var count tally
	for i, a := range all {
		wantRuleLaws(t, a)
		for _, b := range all[:i+1] {
			count.look(t, a, b)
		}
	}
	count.want(t, 25)
}

func TestDrawnRules(t *testing.T) {
	for seed, d := range []drawer{{variables: 2, constants: 1, preds: 2}, {variables: 3, constants: 2, preds: 3, unformed: 3}, {variables: 4, constants: 1, preds: 2, unformed: 10}, {variables: 5, preds: 1}} {
		d.r = rand.New(rand.NewSource(int64(150 + seed)))
		var count tally
		for range 60 {
			all := d.rules(8, 5)
			for i, a := range all {
				wantRuleLaws(t, a)
				for _, b := range all[:i+1] {
					count.look(t, a, b)
				}
			}
		}
		count.want(t, 20)
	}
}

// Alike is an equivalence; who covers who covers a third covers that one.
func TestByWayOfAThird(t *testing.T) {
	d := drawer{r: rand.New(rand.NewSource(155)), variables: 4, constants: 1, preds: 2, unformed: 20}
	alike, covered := 0, 0
	for range 300 {
		all := d.rules(6, 6)
		third := func(tells func(a, b api.Rule) bool) (met int, holds bool) {
			table := [6][6]bool{}
			for i, a := range all {
				for k, b := range all {
					table[i][k] = tells(a, b)
				}
			}
			holds = true
			for i := range all {
				for k := range all {
					for m := range all {
						if table[i][k] && table[k][m] {
							met++
							holds = holds && table[i][m]
						}
					}
				}
			}
			return met, holds
		}
		met, holds := third(Alike)
		alike += met
		more, holdsToo := third(Covers)
		covered += more
		if !holds || !holdsToo {
			t.Errorf("of %s: by way of a third, alike rules are alike: %v, covered ones covered: %v", say(api.Program{Rules: all}), holds, holdsToo)
		}
	}
	if alike < 3000 || covered < 3000 {
		t.Errorf("met %d alike, %d covered", alike, covered)
	}
}

func TestDrawnPrograms(t *testing.T) {
	for seed, d := range []drawer{{variables: 2, constants: 1, preds: 1}, {variables: 3, constants: 2, preds: 3, unformed: 4}, {variables: 4, constants: 3, preds: 2, unformed: 20}} {
		d.r = rand.New(rand.NewSource(int64(160 + seed)))
		thinner := 0
		for range 300 {
			p := api.Program{Inputs: []api.Input{{Pred: "z", Arity: d.r.Intn(3)}, {Pred: "a"}}, Outputs: []api.Output{{Pred: "p0", Arity: 1}}, Rules: d.rules(d.r.Intn(12), 4)}
			wantProgramLaws(t, p)
			if len(Thin(p).Rules) < len(p.Rules) {
				thinner++
			}
		}
		if thinner < 100 {
			t.Errorf("of %d programs alone Thin leaves out rules", thinner)
		}
	}
}

// P0.4: nothing that Program tells hangs on the order of rules and literals, or on the variables' names, where forms do not.
func TestOrdersOfAProgram(t *testing.T) {
	d := drawer{r: rand.New(rand.NewSource(163)), variables: 3, constants: 2, preds: 3, unformed: 20}
	for range 500 {
		p := api.Program{Rules: d.rules(6, 5)}
		q := copyProgram(p)
		for i, r := range q.Rules {
			q.Rules[i] = d.shuffled(r)
			q.Rules[i].Body = append(q.Rules[i].Body, r.Body...)
		}
		d.r.Shuffle(len(q.Rules), func(i, k int) { q.Rules[i], q.Rules[k] = q.Rules[k], q.Rules[i] })
		if !same(copyProgram(Program(p)), copyProgram(Program(q))) {
			t.Errorf("Program of %s is %s; of %s %s", say(p), say(Program(p)), say(q), say(Program(q)))
		}
	}
}

func TestDrawnModels(t *testing.T) {
	d := drawer{r: rand.New(rand.NewSource(164))}
	good, thinner := 0, 0
	for range 600 {
		p := d.goodProgram()
		wantProgramLaws(t, p)
		if strata.Good(p) != api.OK {
			continue
		}
		good++
		if len(Thin(p).Rules) < len(p.Rules) {
			thinner++
		}
		var facts []api.Fact
		for _, a := range []string{"a", "b", "c"} {
			for _, b := range []string{"a", "b", "c"} {
				if d.oneIn(3) {
					facts = append(facts, api.Fact{Pred: "p0", Tuple: []string{a, b}})
				}
			}
		}
		wantOneModel(t, p, facts, []string{"a", "b", "c"})
	}
	if good < 100 || thinner < 50 {
		t.Errorf("%d programs are good, of %d Thin leaves out rules", good, thinner)
	}
}

// answers are all answers of a program, and of its rules.
type answers struct {
	vars                        [][]string
	renamed, put, bodies, forms []api.Rule
	inOneForm, thin             api.Program
	orders, literals            []int
	alike, covers               []bool
}

func answersOf(p api.Program) answers {
	var all answers
	all.inOneForm, all.thin = Program(p), Thin(p)
	for _, r := range p.Rules {
		all.vars = append(all.vars, Vars(r))
		all.renamed = append(all.renamed, Rename(r))
		all.put = append(all.put, Put(r, []string{"X", "Y", "X"}, []api.Term{variable("Y"), constant("put")}))
		all.bodies = append(all.bodies, Body(r))
		all.forms = append(all.forms, Rule(r))
		for _, other := range p.Rules {
			all.orders = append(all.orders, CompareRules(r, other))
			all.alike = append(all.alike, Alike(r, other))
			all.covers = append(all.covers, Covers(r, other))
			for i := range min(len(r.Body), len(other.Body)) {
				all.literals = append(all.literals, Compare(r.Body[i], other.Body[i]))
			}
		}
	}
	return all
}

func sample(t testing.TB) api.Program {
	t.Helper()
	return readProgram(t, `
		input e/2 "f". input e/2 "g". output t/2. output s/1.
		t(X, Y) :- e(X, Y).
		t(X, Z) :- e(X, Y), t(Y, Z), X != Z, Y != Z, e(W, V), e(V, U).
		t(A, B) :- t(C, B), e(A, C), B != C, e(D, E), e(E, F), e(C, C), A != B.
		t(X, b) :- e(X, b), X != b, "a b" != X.
		s(X) :- e(X, Y), not t(X, X), not t(Y, X), e(Y, Z), e(Z, X).
		s(X) :- e(X, Y), e(Y, Z), e(Z, X), not t(Y, X), not t(X, X).
		s(X) :- e(X, Y), e(Y, Z), e(Z, W), e(W, X), e(A, X), e(B, X), A != B.
		u. u(a). u(b). u.`)
}

// The same again, always: a map's order is not to be seen.
func TestTheSameAgain(t *testing.T) {
	p := sample(t)
	first := answersOf(p)
	for range 50 {
		if again := answersOf(p); !reflect.DeepEqual(again, first) {
			t.Fatalf("it was %s; is %s", say(first), say(again))
		}
	}
}

// FuzzNormal holds the rules of a program's text, with one literal changed in kind and in what it names, against the document's words.
func FuzzNormal(f *testing.F) {
	f.Add("p(X, a) :- q(Y, X), not r(Y). p(C) :- p(C), p(A).", "X", 1, 1)
	f.Add("p :- r(X), q(a), q(X), Y != X, q(a). p :- X != a. p :- a != b.", "Y", 0, 3)
	f.Add("p(X) :- q(X), r(X). p(X) :- q(X). p(Y) :- q(Y).", "", 7, 4)
	f.Add("p(X) :- q(X, Y), q(Y, X). p(A) :- q(B, A), q(A, B). p(X) :- q(X, X).", "Z", 2, -1)
	f.Fuzz(func(t *testing.T, text, name string, at, kind int) {
		p, _, _, e := parse.Program(text)
		if e != api.OK || len(text) > 200 || slices.ContainsFunc(p.Rules, isLong) {
			return
		}
		wantEverything(t, p)
		for i := range p.Rules {
			if body := p.Rules[i].Body; len(body) > 0 {
				l := &body[uint(at)%uint(len(body))]
				l.Kind, l.Left = api.LitKind(kind), variable(name)
			}
		}
		wantEverything(t, p)
	})
}

func isLong(r api.Rule) bool { return len(r.Body) > 6 }

func wantEverything(t testing.TB, p api.Program) {
	t.Helper()
	wantProgramLaws(t, p)
	for i, r := range p.Rules {
		wantRuleLaws(t, r)
		for _, other := range p.Rules[:i] {
			wantPairLaws(t, r, other)
		}
	}
}

// What is handed in stays as it was, and no answer hangs on it.

// roomy has the same things with spare room behind, in which other things stand.
func roomy[T any](list []T, other T) []T {
	room := append(slices.Clone(list), other, other, other)
	return room[:len(list)]
}

func roomyAtom(a api.Atom) api.Atom {
	return api.Atom{Pred: a.Pred, Args: roomy(a.Args, variable("Spare"))}
}

func roomyProgram(p api.Program) api.Program {
	spare := positive("spare", "Spare")
	q := api.Program{Inputs: roomy(p.Inputs, api.Input{Pred: "spare"}), Outputs: roomy(p.Outputs, api.Output{Pred: "spare"}), Rules: roomy(p.Rules, rule(spare.Atom, spare))}
	for i, r := range q.Rules {
		q.Rules[i] = api.Rule{Head: roomyAtom(r.Head), Body: roomy(r.Body, spare)}
		for k, l := range q.Rules[i].Body {
			q.Rules[i].Body[k].Atom = roomyAtom(l.Atom)
		}
	}
	return q
}

func whole[T any](list []T) []T { return slices.Clone(list[:cap(list)]) }

// withRoom is a copy of all of it, spare room included.
func withRoom(p api.Program) api.Program {
	q := api.Program{Inputs: whole(p.Inputs), Outputs: whole(p.Outputs), Rules: whole(p.Rules)}
	for i, r := range q.Rules {
		q.Rules[i] = api.Rule{Head: api.Atom{Pred: r.Head.Pred, Args: whole(r.Head.Args)}, Body: whole(r.Body)}
		for k, l := range q.Rules[i].Body {
			q.Rules[i].Body[k].Atom.Args = whole(l.Atom.Args)
		}
	}
	return q
}

func TestWhatIsHandedInStays(t *testing.T) {
	p := roomyProgram(sample(t))
	before := withRoom(p)
	wanted := answersOf(sample(t))
	if got := answersOf(p); !reflect.DeepEqual(got, wanted) {
		t.Errorf("with spare room it is %s; without %s", say(got), say(wanted))
	}
	if after := withRoom(p); !reflect.DeepEqual(after, before) {
		t.Errorf("what was handed in was\n%s; is\n%s", say(before), say(after))
	}
	names, list := roomy([]string{"X", "Y"}, "W"), roomy([]api.Term{constant("a"), variable("X")}, constant("spare"))
	for _, r := range p.Rules {
		wantSameRule(t, "Put", r, Put(r, names, list), plainPut(r, []string{"X", "Y"}, []api.Term{constant("a"), variable("X")}))
	}
	if !slices.Equal(whole(names)[:5], []string{"X", "Y", "W", "W", "W"}) || whole(list)[1] != variable("X") || whole(list)[2] != constant("spare") {
		t.Errorf("what was handed in is %q, %v", whole(names), whole(list))
	}
}

// rulesOf are all rules of all answers.
func (all answers) rulesOf() []api.Rule {
	return slices.Concat(all.renamed, all.put, all.bodies, all.forms, all.inOneForm.Rules, all.thin.Rules)
}

// texts are all texts of all answers.
func (all answers) texts() []string {
	texts := slices.Concat(all.vars...)
	for _, r := range all.rulesOf() {
		texts = append(texts, r.Head.Pred)
		for _, l := range r.Body {
			texts = append(texts, l.Atom.Pred)
		}
		for _, place := range places(&r) {
			texts = append(texts, place.Text)
		}
	}
	for _, p := range []api.Program{all.inOneForm, all.thin} {
		for _, input := range p.Inputs {
			texts = append(texts, input.Pred, input.File)
		}
		for _, output := range p.Outputs {
			texts = append(texts, output.Pred)
		}
	}
	return slices.DeleteFunc(texts, func(s string) bool { return s == "" })
}

// looseText is a text that lies in memory which can be written over.
func looseText(s string, memories *[][]byte) string {
	memory := []byte(s)
	if len(memory) == 0 {
		return ""
	}
	*memories = append(*memories, memory)
	return unsafe.String(unsafe.SliceData(memory), len(memory))
}

func looseAtom(a api.Atom, memories *[][]byte) api.Atom {
	return api.Atom{Pred: looseText(a.Pred, memories), Args: slices.Clone(a.Args)}
}

func looseProgram(p api.Program, memories *[][]byte) api.Program {
	q := copyProgram(p)
	for i := range q.Inputs {
		q.Inputs[i].Pred, q.Inputs[i].File = looseText(q.Inputs[i].Pred, memories), looseText(q.Inputs[i].File, memories)
	}
	for i := range q.Outputs {
		q.Outputs[i].Pred = looseText(q.Outputs[i].Pred, memories)
	}
	for i, r := range q.Rules {
		r.Head = looseAtom(r.Head, memories)
		for k, l := range r.Body {
			r.Body[k].Atom = looseAtom(l.Atom, memories)
		}
		for _, place := range places(&r) {
			place.Text = looseText(place.Text, memories)
		}
		q.Rules[i] = r
	}
	return q
}

// An answer stays when the texts that were handed in are written over.
func TestTextsOfAnswersAreApart(t *testing.T) {
	var memories [][]byte
	got := answersOf(looseProgram(sample(t), &memories))
	handed := map[*byte]struct{}{}
	for _, memory := range memories {
		handed[unsafe.SliceData(memory)] = struct{}{}
		clear(memory)
	}
	if wanted := answersOf(sample(t)); !reflect.DeepEqual(got, wanted) {
		t.Errorf("it was %s; is %s", say(wanted), say(got))
	}
	for _, text := range got.texts() {
		if _, shared := handed[unsafe.StringData(text)]; shared {
			t.Errorf("%q of an answer lies where it was handed in", text)
		}
	}
	list := []api.Term{constant(looseText("put", &memories))}
	r := Put(read(t, "p(X)"), []string{"X"}, list)
	clear(memories[len(memories)-1])
	wantRule(t, "Put", r, "p(put)")
}

func fill[T any](list []T, other T) {
	list = list[:cap(list)]
	for i := range list {
		list[i] = other
	}
}

// scribble writes over all of the answers, spare room included.
func scribble(all answers) {
	for _, names := range all.vars {
		fill(names, "?")
	}
	for _, r := range all.rulesOf() {
		fill(r.Head.Args, variable("?"))
		for _, l := range r.Body {
			fill(l.Atom.Args, variable("?"))
		}
		fill(r.Body, positive("?"))
	}
	for _, p := range []api.Program{all.inOneForm, all.thin} {
		fill(p.Inputs, api.Input{Pred: "?"})
		fill(p.Outputs, api.Output{Pred: "?"})
		fill(p.Rules, api.Rule{})
	}
}

func TestListsOfAnswersAreApart(t *testing.T) {
	p := sample(t)
	first, second := answersOf(p), answersOf(p)
	scribble(first)
	if third := answersOf(p); !reflect.DeepEqual(second, third) {
		t.Errorf("beside answers that were changed there are\n%s\n%s", say(second), say(third))
	}
	if !reflect.DeepEqual(p, sample(t)) {
		t.Errorf("what was handed in is %s", say(p))
	}
	// Within one answer, too: to write over one list, spare room included, changes none of the others.
	for _, got := range []api.Rule{Rename(p.Rules[2]), Body(p.Rules[2]), Rule(p.Rules[2]), Put(p.Rules[2], nil, nil)} {
		wanted := copyRule(got)
		fill(got.Head.Args, variable("?"))
		for i := range got.Body {
			if !same(copyRule(rule(wanted.Head, got.Body[i])), rule(wanted.Head, wanted.Body[i])) {
				t.Errorf("the literal %d of %s is %s", i, say(wanted), say(got.Body[i]))
			}
			fill(got.Body[i].Atom.Args, variable("?"))
		}
	}
}

// Lists that are nil and lists without things mean the same.
func TestNilAndEmptyLists(t *testing.T) {
	for _, kind := range anyKinds {
		filled := api.Literal{Kind: kind, Atom: api.Atom{Args: []api.Term{}}}
		with := []api.Rule{{Head: api.Atom{Args: []api.Term{}}, Body: []api.Literal{filled}}, {Head: api.Atom{Args: []api.Term{}}, Body: []api.Literal{}}}
		without := []api.Rule{{Body: []api.Literal{{Kind: kind}}}, {}}
		for i := range with {
			wantRuleLaws(t, with[i])
			for k := range without {
				wantPairLaws(t, with[i], without[k])
				if (CompareRules(with[i], without[k]) == 0) != (i == k) {
					t.Errorf("CompareRules of %s and %s is %d", say(with[i]), say(without[k]), CompareRules(with[i], without[k]))
				}
			}
		}
		got, wanted := answersOf(api.Program{Inputs: []api.Input{}, Outputs: []api.Output{}, Rules: with}), answersOf(api.Program{Rules: without})
		if !reflect.DeepEqual(got, wanted) {
			t.Errorf("of the kind %d: %s; %s", kind, say(got), say(wanted))
		}
	}
	wantProgramLaws(t, api.Program{})
	wantProgramLaws(t, api.Program{Inputs: []api.Input{}, Outputs: []api.Output{}, Rules: []api.Rule{}})
}

// Nothing is kept from call to call, so any number may call at once (go test -race would tell).
func TestManyCallAtOnce(t *testing.T) {
	p := sample(t)
	wanted := answersOf(p)
	var all sync.WaitGroup
	for range 8 {
		all.Go(func() {
			for range 10 {
				if got := answersOf(p); !reflect.DeepEqual(got, wanted) {
					t.Errorf("it is %s", say(got))
				}
			}
		})
	}
	all.Wait()
}

// Texts that are long, or no names at all, are texts as any others.
func TestAnyTexts(t *testing.T) {
	long := strings.Repeat("x", 1<<16)
	texts := []string{"", "a", "A", "V0", "not", "é", "\xff", "\x00", " ", "1:a", "+", long, long + "a"}
	for _, text := range texts {
		for _, other := range texts {
			x, y := variable(text), variable(other)
			a := rule(api.Atom{Pred: text, Args: []api.Term{x, constant(other)}}, api.Literal{Kind: api.Positive, Atom: api.Atom{Pred: other, Args: []api.Term{y}}})
			b := rule(api.Atom{Pred: other, Args: []api.Term{y, constant(text)}}, api.Literal{Kind: api.Positive, Atom: api.Atom{Pred: text, Args: []api.Term{x}}})
			wantRuleLaws(t, a)
			wantPairLaws(t, a, b)
			wantProgramLaws(t, api.Program{Inputs: []api.Input{{Pred: text, Arity: -5, File: other}}, Outputs: []api.Output{{Pred: other, Arity: 99}}, Rules: []api.Rule{a, b, a}})
		}
	}
}
