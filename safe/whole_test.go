package safe

import (
	"math/rand"
	"reflect"
	"slices"
	"strings"
	"sync"
	"testing"
	"unsafe"

	"inkling/api"
	"inkling/parse"
)

// tally counts rules by whether they are safe and whether they have a way, so that a test tells when it met too few.
type tally struct{ safe, loose, none, neither int }

func (c *tally) look(t testing.TB, r api.Rule) {
	t.Helper()
	wantLaws(t, r)
	_, ok := Rule(r)
	_, there := Way(r)
	switch {
	case ok && there:
		c.safe++
	case there:
		c.loose++
	case ok:
		c.neither++
	default:
		c.none++
	}
}

func (c *tally) want(t testing.TB, least int) {
	t.Helper()
	// Of a safe rule there is always a way.
	if c.safe < least || c.loose < least || c.none < least || c.neither > 0 {
		t.Errorf("safe %d; loose in the head alone %d; without a way %d; safe without a way %d", c.safe, c.loose, c.none, c.neither)
	}
}

// All rules of up to four of these literals, with three heads.
func TestAllSmallRules(t *testing.T) {
	x, y, a := variable("X"), variable("Y"), constant("X")
	pool := []api.Literal{
		positive(atom("q", x)), positive(atom("q", y, x)), positive(atom("q", a)),
		negative(atom("q", x)), negative(atom("q", y, x)), negative(atom("q", a)),
		unlike(x, y), unlike(y, a), unlike(a, x),
		{Kind: 4, Atom: atom("q", x), Left: y, Right: y},
	}
	heads := []api.Atom{atom("p"), atom("p", x), atom("p", a, y)}
	var count tally
	var grow func(body []api.Literal)
	grow = func(body []api.Literal) {
		for _, head := range heads {
			count.look(t, rule(head, body...))
		}
		if len(body) == 4 {
			return
		}
		for _, l := range pool {
			grow(append(slices.Clip(body), l))
		}
	}
	grow(nil)
	count.want(t, 1000)
}

// All orders of these literals.
func TestAllOrders(t *testing.T) {
	body := read(t, "p :- q(X), r(X, Y), s(Z), not t(X, Z), Y != Z, not u(Y), not v(Z)").Body
	count := 0
	var turn func(place int)
	turn = func(place int) {
		if place == len(body) {
			count++
			wantWordsOfWay(t, rule(atom("p"), body...))
			return
		}
		for i := place; i < len(body); i++ {
			body[place], body[i] = body[i], body[place]
			turn(place + 1)
			body[place], body[i] = body[i], body[place]
		}
	}
	turn(0)
	if count != 5040 {
		t.Errorf("%d orders", count)
	}
}

func TestDrawnRules(t *testing.T) {
	for seed, d := range []drawer{{names: 2}, {names: 4}, {names: 12}, {names: 4, unformed: 3}, {names: 3, unformed: 10}} {
		d.r = rand.New(rand.NewSource(int64(120 + seed)))
		var count tally
		for range 1500 {
			count.look(t, d.rule(9))
		}
		count.want(t, 30)
	}
}

func TestDrawnPrograms(t *testing.T) {
	d := drawer{r: rand.New(rand.NewSource(126)), names: 3, unformed: 20}
	met := map[api.Errno]int{}
	for range 2000 {
		p := d.program(6)
		wantProgramLaws(t, p)
		_, _, e := Check(p)
		met[e]++
	}
	if met[api.OK] < 200 || met[api.ErrUnsafe] < 200 || len(met) != 2 {
		t.Errorf("met: %v", met)
	}
}

// Whether a program is safe does not hang on the order of its rules and of their literals, and all its faults are told in any.
func TestTheOrderOfRules(t *testing.T) {
	d := drawer{r: rand.New(rand.NewSource(127)), names: 5, unformed: 20}
	bare := func(p api.Program) []string {
		var names []string
		for _, l := range Faults(p) {
			names = append(names, l.Name)
		}
		return slices.Sorted(slices.Values(names))
	}
	for range 1000 {
		p := d.program(8)
		before := bare(p)
		_, _, e := Check(p)
		d.r.Shuffle(len(p.Rules), func(i, k int) { p.Rules[i], p.Rules[k] = p.Rules[k], p.Rules[i] })
		for _, r := range p.Rules {
			d.r.Shuffle(len(r.Body), func(i, k int) { r.Body[i], r.Body[k] = r.Body[k], r.Body[i] })
		}
		if _, _, other := Check(p); other != e || !slices.Equal(bare(p), before) {
			t.Errorf("%s in another order was %v %q, is %v %q", say(p), e, before, other, bare(p))
		}
	}
}

// answers are all answers of a program, and of each of its rules.
type answers struct {
	number      int
	name        string
	e           api.Errno
	faults      []api.Loose
	vars, bound [][]string
	ways        [][]int
	ready       []bool
}

func answersOf(p api.Program) answers {
	var all answers
	all.number, all.name, all.e = Check(p)
	all.faults = Faults(p)
	for _, r := range p.Rules {
		way, _ := Way(r)
		all.vars = append(all.vars, Vars(r))
		all.bound = append(all.bound, Bound(r.Body))
		all.ways = append(all.ways, way)
		for _, l := range r.Body {
			all.ready = append(all.ready, Ready(l, Bound(r.Body[:1])))
		}
	}
	return all
}

// sample has many variables, so that a map's order would be seen.
func sample(t testing.TB) api.Program {
	t.Helper()
	return readProgram(t, `
		p(A, B, C) :- not q(C, B, A), q(A, B, C), D != E, r(E), r(D), not s(F, G, H), s(H, G, F), t(I, J, K, L), I != L, not t(L, K, J, I).
		p(Z, Y, X, W, V, U) :- not q(T, S, R, Q, P), O != N, q(M, L, K, J).
		q(A, B, C, D, E, F, G, H, I).
		r(a).
		s(X) :- r(X), not t(X), X != Y, X != a.`)
}

// The same again, always: a map's order is not to be seen.
func TestTheSameAgain(t *testing.T) {
	p := sample(t)
	first := answersOf(p)
	for range 100 {
		if again := answersOf(p); !reflect.DeepEqual(again, first) {
			t.Fatalf("it was %s; is %s", say(first), say(again))
		}
	}
}

// FuzzSafe holds a program's text, and its rules with one literal changed in kind and in what it names, against the document's words.
func FuzzSafe(f *testing.F) {
	f.Add("p(X, a, Y) :- q(Y, Z), X != W.", "X", 1, 1)
	f.Add("p :- not r(X), q(X), X != Y, s(Y), t.", "Y", 0, 4)
	f.Add("p(X) :- q(X). r(X, Y) :- q(Y). s(Z).", "", 7, 3)
	f.Add("p :- q(X), not r(X, Y), Y != Z.", "Z", 2, -1)
	f.Fuzz(func(t *testing.T, text, name string, at, kind int) {
		p, _, _, e := parse.Program(text)
		if e != api.OK || len(text) > 1000 {
			return
		}
		wantProgramLaws(t, p)
		for _, r := range p.Rules {
			wantLaws(t, r)
			if len(r.Body) == 0 {
				continue
			}
			l := &r.Body[uint(at)%uint(len(r.Body))]
			wantReady(t, *l, []string{name}, plainReady(*l, []string{name}))
			l.Kind, l.Left = api.LitKind(kind), variable(name)
			wantLaws(t, r)
		}
		wantProgramLaws(t, p)
	})
}

// What is handed in stays as it was, and no answer hangs on it.

// roomy has the same things with spare room behind, in which other things stand.
func roomy[T any](list []T, other T) []T {
	room := append(slices.Clone(list), other, other, other)
	return room[:len(list)]
}

func roomyRule(r api.Rule) api.Rule {
	spare := variable("Spare")
	q := api.Rule{Head: atom(r.Head.Pred, roomy(r.Head.Args, spare)...), Body: roomy(r.Body, positive(atom("spare", spare)))}
	for i, l := range q.Body {
		q.Body[i].Atom.Args = roomy(l.Atom.Args, spare)
	}
	return q
}

func whole[T any](list []T) []T { return slices.Clone(list[:cap(list)]) }

// withRoom is a copy of all of it, spare room included.
func withRoom(p api.Program) []api.Rule {
	all := whole(p.Rules)
	for i, r := range all {
		all[i] = api.Rule{Head: atom(r.Head.Pred, whole(r.Head.Args)...), Body: whole(r.Body)}
		for k, l := range all[i].Body {
			all[i].Body[k].Atom.Args = whole(l.Atom.Args)
		}
	}
	return all
}

func TestWhatIsHandedInStays(t *testing.T) {
	p := sample(t)
	p.Rules = roomy(p.Rules, rule(atom("spare", variable("Spare"))))
	for i, r := range p.Rules {
		p.Rules[i] = roomyRule(r)
	}
	before := withRoom(p)
	bound := roomy(list("X Y"), "Spare")
	for _, r := range p.Rules {
		wantLaws(t, r)
		for _, l := range r.Body {
			wantReady(t, l, bound, plainReady(l, list("X Y")))
		}
	}
	wantProgramLaws(t, p)
	if after := withRoom(p); !reflect.DeepEqual(after, before) {
		t.Errorf("what was handed in was\n%s; is\n%s", say(before), say(after))
	}
	if got := whole(bound)[:5]; !slices.Equal(got, list("X Y Spare Spare Spare")) {
		t.Errorf("what was handed in is %q", got)
	}
}

// textsOf are all texts of all answers.
func textsOf(p api.Program) []string {
	all := answersOf(p)
	texts := []string{all.name}
	for _, l := range all.faults {
		texts = append(texts, l.Name)
	}
	for _, r := range p.Rules {
		name, _ := Rule(r)
		texts = append(texts, name)
	}
	texts = append(texts, slices.Concat(all.vars...)...)
	texts = append(texts, slices.Concat(all.bound...)...)
	return slices.DeleteFunc(texts, func(s string) bool { return s == "" })
}

// looseText is a text that lies in memory which can be written over.
func looseText(s string) (string, []byte) {
	memory := []byte(s)
	return unsafe.String(unsafe.SliceData(memory), len(memory)), memory
}

// An answer stays when the texts that were handed in are written over, and no two texts of answers lie in one place.
func TestTextsOfAnswersAreApart(t *testing.T) {
	x, memory := looseText("Loose")
	y, more := looseText("Bound")
	bad := rule(atom("p", variable(x), variable(y)), positive(atom("q", variable(y))), unlike(variable(x), variable(y)))
	texts := textsOf(rules(bad, bad))
	all := slices.Concat(texts, []string{x, y})
	for i, a := range all {
		for _, b := range all[:i] {
			if unsafe.StringData(a) == unsafe.StringData(b) {
				t.Errorf("of %q two share memory: %q", texts, a)
			}
		}
	}
	clear(memory)
	clear(more)
	if wanted := list("Loose Loose Loose Loose Loose Loose Bound Loose Bound Bound Bound"); !slices.Equal(texts, wanted) {
		t.Errorf("the texts are %q; want %q", texts, wanted)
	}
}

// scribble writes over all of the answers, spare room included.
func scribble(all answers) {
	fill(all.faults, api.Loose{Rule: 99, Literal: 99, Name: "?"})
	for i := range all.vars {
		fill(all.vars[i], "?")
		fill(all.bound[i], "?")
		fill(all.ways[i], 99)
	}
}

func fill[T any](list []T, other T) {
	list = list[:cap(list)]
	for i := range list {
		list[i] = other
	}
}

func TestListsOfAnswersAreApart(t *testing.T) {
	p := sample(t)
	first, second := answersOf(p), answersOf(p)
	scribble(first)
	if third := answersOf(p); !reflect.DeepEqual(second, third) {
		t.Errorf("beside answers that were changed there are\n%s\n%s", say(second), say(third))
	}
	if !reflect.DeepEqual(p, sample(t)) {
		t.Errorf("what was handed in is %s", say(p))
	}
}

// Lists that are nil and lists without things mean the same.
func TestNilAndEmptyLists(t *testing.T) {
	for _, kind := range []api.LitKind{api.Positive, api.Negative, api.Unlike, 0, 4} {
		filled := api.Literal{Kind: kind, Atom: api.Atom{Args: []api.Term{}}}
		with := answersOf(api.Program{Inputs: []api.Input{}, Outputs: []api.Output{}, Rules: []api.Rule{{Head: api.Atom{Args: []api.Term{}}, Body: []api.Literal{filled}}}})
		without := answersOf(rules(api.Rule{Body: []api.Literal{{Kind: kind}}}))
		if !reflect.DeepEqual(with, without) {
			t.Errorf("of the kind %d: %s; %s", kind, say(with), say(without))
		}
		wantReady(t, filled, []string{}, Ready(api.Literal{Kind: kind}, nil))
	}
}

// Nothing is kept from call to call, so any number may call at once (go test -race would tell).
func TestManyCallAtOnce(t *testing.T) {
	p := sample(t)
	wanted := answersOf(p)
	var all sync.WaitGroup
	for range 8 {
		all.Go(func() {
			for range 20 {
				if got := answersOf(p); !reflect.DeepEqual(got, wanted) {
					t.Errorf("it is %s", say(got))
				}
			}
		})
	}
	all.Wait()
}

// A rule's own way, read as a body, is taken from its first literal to its last.
func TestAWayIsItsOwnWay(t *testing.T) {
	d := drawer{r: rand.New(rand.NewSource(128)), names: 4, unformed: 10}
	met := 0
	for range 1000 {
		r := d.rule(8)
		way, ok := Way(r)
		if !ok {
			continue
		}
		met++
		var body []api.Literal
		var wanted []int
		for i, place := range way {
			body = append(body, r.Body[place])
			wanted = append(wanted, i)
		}
		wantWay(t, rule(r.Head, body...), wanted...)
	}
	if met < 100 {
		t.Errorf("%d rules alone have a way", met)
	}
}

// The document's bounds: as many terms and literals as there may be in form.
func TestTheGreatestRuleInForm(t *testing.T) {
	var terms []string
	for i := range api.MaxArity {
		terms = append(terms, "V"+strings.Repeat("v", api.MaxName-1-i))
	}
	args := "(" + strings.Join(terms, ", ") + ")"
	text := "p" + args + " :- " + strings.Repeat("not q"+args+", ", api.MaxBody-1) + "r" + args
	r := read(t, text)
	wanted := []int{api.MaxBody - 1}
	for i := range api.MaxBody - 1 {
		wanted = append(wanted, i)
	}
	if way, ok := Way(r); !slices.Equal(way, wanted) || !ok {
		t.Errorf("Way is %v, %v", way, ok)
	}
	if got := Vars(r); !slices.Equal(got, terms) {
		t.Errorf("Vars is %q", got)
	}
	if name, ok := Rule(r); name != "" || !ok {
		t.Errorf("Rule is %q, %v", name, ok)
	}
	r.Body[api.MaxBody-1].Atom.Args = r.Body[api.MaxBody-1].Atom.Args[:api.MaxArity-1]
	if name, ok := Rule(r); name != terms[api.MaxArity-1] || ok {
		t.Errorf("with a variable less in the last literal Rule is %q, %v", name, ok)
	}
	wantNoWay(t, r)
}
