package join

import (
	"math"
	"slices"
	"strconv"
	"strings"
	"testing"

	"inkling/api"
)

const twoSteps = "t(X, Z) :- e(X, Y), e(Y, Z)"

func TestExamples(t *testing.T) {
	e, d := storeOf(t, "e a b", "e b c", "e c a", "v a"), storeOf(t, "e c a")
	j := join(t, twoSteps)
	if !slices.Equal(j.Vars(), []string{"X", "Z", "Y"}) || j.Positives() != 2 || !sameRule(j.Rule(), read(t, twoSteps)) {
		t.Errorf("it is of %s, with %v and %d positives", say(j.Rule()), j.Vars(), j.Positives())
	}
	wantMatches(t, j.Each(e.store, e.store), "a c/a c b", "b a/b a c", "c b/c b a")
	wantMatches(t, join(t, "t(X) :- e(X, Y), not v(Y)").Each(e.store, e.store), "a/a b", "b/b c")
	wantMatches(t, join(t, "t(X) :- e(X, Y), not v(Y)").Each(e.store, nil), "a/a b", "b/b c", "c/c a")
	wantMatches(t, join(t, "t(X) :- e(X, Y), X != a").Each(e.store, e.store), "b/b c", "c/c a")
	wantMatches(t, join(t, "t(X) :- e(X, X)").Each(e.store, e.store))
	wantMatches(t, join(t, "t :- e(X, a)").Each(e.store, e.store), "/c")
	wantMatches(t, j.Delta(0, e.store, d.store, e.store, e.store), "c b/c b a")
	wantMatches(t, j.Delta(1, e.store, d.store, e.store, e.store), "b a/b a c")
	wantMatches(t, j.Delta(2, e.store, d.store, e.store, e.store))
	wantMatches(t, j.Delta(-1, e.store, d.store, e.store, e.store))
	wantMatches(t, join(t, "f(a, b)").Each(nil, nil), "a b/")
	wantNoCompile(t, read(t, "t(X) :- not v(X)"), api.ErrUnsafe)
	wantNoCompile(t, rule(atom("t", make([]api.Term, 17)...)), api.ErrArg)
	wantAdd(t, e.store, fact("e a b"), false, api.OK)
	wantAdd(t, e.store, fact("e a"), true, api.OK)
	wantAdd(t, e.store, fact("not"), false, api.ErrArg)
	wantAdd(t, nil, fact("e a b"), false, api.ErrNil)
}

// P17.1

func wantAdd(t testing.TB, s *Store, f api.Fact, wanted bool, e api.Errno) {
	t.Helper()
	if came, got := s.Add(f); came != wanted || got != e {
		t.Errorf("Add(%s) is %v, %v; want %v, %v", say(f), came, got, wanted, e)
	}
}

func TestNew(t *testing.T) {
	wantStore(t, storeOf(t))
	a, b := New(), New()
	wantAdd(t, a, fact("e a"), true, api.OK)
	if b.Has(fact("e a")) || b.Len() != 0 || len(b.Model()) != 0 || len(b.Tuples("e", 1)) != 0 {
		t.Error("two new stores have something to do with one another")
	}
}

func TestStores(t *testing.T) {
	b := storeOf(t)
	for _, text := range strings.Split("e b a,e a b,e b a,e a,e,e,e a a,d z,e a,e b a,d y,ee q,e1 a,eX,d z y x w v u t s r q p o n m l k", ",") {
		b.add(t, fact(text))
		wantStore(t, b)
	}
	if got := b.store.Tuples("e", 2); !sameTuples(got, [][]string{{"b", "a"}, {"a", "b"}, {"a", "a"}}) {
		t.Errorf("Tuples is %v", got)
	}
	var kinds []string
	for _, r := range b.store.Model() {
		kinds = append(kinds, r.Pred+strconv.Itoa(r.Arity))
	}
	if !slices.Equal(kinds, strings.Fields("d1 d16 e0 e1 e2 e11 eX0 ee1")) {
		t.Errorf("Model has %v", kinds)
	}
	for _, arity := range []int{math.MinInt, -1, 3, 17, math.MaxInt} {
		if got := b.store.Tuples("e", arity); len(got) != 0 {
			t.Errorf("Tuples(e, %d) is %v", arity, got)
		}
	}
}

// Lengths rise as numbers do, constants by their bytes.
func TestModelRises(t *testing.T) {
	b := storeOf(t)
	texts := []string{"b", "", "a", "\xff", "a\x00", "A", "aa", "é", "10", "9", strings.Repeat("a", 1024), "Z", "\x00", "a b", "ab"}
	for _, one := range texts {
		for _, other := range texts {
			b.add(t, api.Fact{Pred: "p", Tuple: []string{one, other}})
		}
		b.add(t, api.Fact{Pred: "p", Tuple: []string{one}})
	}
	for arity := api.MaxArity; arity >= 0; arity-- {
		b.add(t, api.Fact{Pred: "q", Tuple: slices.Repeat([]string{"a"}, arity)})
	}
	wantStore(t, b)
	first := b.store.Model()[0].Tuples
	slices.Sort(texts)
	for i, one := range texts {
		if first[i][0] != one {
			t.Errorf("the tuple %d is %q; want %q", i, first[i], one)
		}
	}
}

// No line between a tuple's constants is to be mistaken.
func TestTuplesAreNotMixedUp(t *testing.T) {
	b := storeOf(t)
	for _, tuple := range [][]string{{"a", "bc"}, {"ab", "c"}, {"abc", ""}, {"", "abc"}, {"abc"}, {"", "", ""}, {"", ""}, {""}, {}, nil} {
		b.add(t, api.Fact{Pred: "p", Tuple: tuple})
		b.add(t, api.Fact{Pred: "pa", Tuple: tuple})
	}
	wantStore(t, b)
}

func wrongFacts() []api.Fact {
	long, many := strings.Repeat("a", api.MaxText+1), slices.Repeat([]string{"a"}, api.MaxArity+1)
	all := []api.Fact{{Pred: "p", Tuple: many}, {Pred: "p", Tuple: []string{long}}, {Pred: "p", Tuple: []string{"a", "b", long}}, {}, {Tuple: []string{"a"}}, {Pred: "p", Tuple: make([]string, 100000)}}
	for _, pred := range []string{"", "not", "input", "output", "P", "1", "1a", "_", "_a", "a b", " a", "a ", "a.", "p(", "\"p\"", "é", "pé", "p\x00", "p\n", strings.Repeat("p", api.MaxName+1)} {
		all = append(all, api.Fact{Pred: pred}, api.Fact{Pred: pred, Tuple: []string{"a"}}, api.Fact{Pred: pred, Tuple: many})
	}
	return all
}

func TestWrongFacts(t *testing.T) {
	b := storeOf(t, "p a", "q")
	for _, f := range wrongFacts() {
		wantAdd(t, b.store, f, false, api.ErrArg)
		wantHas(t, b, f)
	}
	wantStore(t, b)
}

func TestFactsAtTheBounds(t *testing.T) {
	b := storeOf(t)
	long, many := strings.Repeat("\xff", api.MaxText), slices.Repeat([]string{"a", "b"}, api.MaxArity/2)
	for _, pred := range []string{"p", strings.Repeat("p", api.MaxName), "p_", "pP1", "nots", "no", "inputs", "outputX", "input_"} {
		for _, tuple := range [][]string{nil, {""}, {long}, many, slices.Repeat([]string{long}, api.MaxArity)} {
			b.add(t, api.Fact{Pred: pred, Tuple: tuple})
			b.add(t, api.Fact{Pred: pred, Tuple: tuple})
		}
	}
	wantStore(t, b)
	if b.store.Len() != 45 {
		t.Errorf("Len is %d", b.store.Len())
	}
}

// A store that New or Copy did not make is as nil.
func TestNoStores(t *testing.T) {
	var held struct{ s Store }
	for _, s := range []*Store{nil, {}, new(Store), &held.s} {
		for _, f := range append(wrongFacts(), fact("p a")) {
			wantAdd(t, s, f, false, api.ErrNil)
			if s.Has(f) {
				t.Errorf("it has %s", say(f))
			}
		}
		if s.Len() != 0 || s.Model() != nil || s.Tuples("p", 0) != nil || s.Tuples("p", 1) != nil || s.Tuples("", -1) != nil || s.Copy() != nil {
			t.Errorf("it has %d, %v, %v", s.Len(), s.Model(), s.Copy())
		}
		wantMatches(t, join(t, "f(a)").Each(s, s), "a/")
		wantMatches(t, join(t, "f(a) :- not p").Each(s, s), "a/")
		wantMatches(t, join(t, "f(X) :- p(X)").Each(s, s))
		wantMatches(t, join(t, "f :- p").Each(s, s))
		wantMatches(t, join(t, "f :- p").Delta(0, s, s, s, s))
	}
}

func TestCopy(t *testing.T) {
	a := storeOf(t, "p b a", "p a b", "q c", "p a")
	b := both{a.store.Copy(), slices.Clone(a.plain)}
	wantStore(t, b)
	for _, text := range strings.Split("p b b,r d,p c c,p a b,q a", ",") {
		b.add(t, fact(text))
		wantStore(t, a)
		wantStore(t, b)
	}
	// Both numbers go on from where they stood, each with a constant of its own.
	a.add(t, fact("p x x"))
	b.add(t, fact("p y y"))
	c := both{b.store.Copy(), slices.Clone(b.plain)}
	c.add(t, fact("p z z"))
	for _, one := range []both{a, b, c} {
		wantStore(t, one)
		wantJoin(t, read(t, "t(X, Y) :- p(X, Y), p(Y, X), not q(Y), X != d"), four{one, b, one, a})
	}
}

// What walks make in a store to find tuples goes on apart in its copy.
func TestCopyBehindWalks(t *testing.T) {
	r := read(t, "t(X, Y, a) :- p(X, Y), q(Y), p(Y, b), not p(Y, Y)")
	a := storeOf(t, "p a b", "p b b", "q b", "q a", "p b a")
	wantJoin(t, r, four{a, a, a, a})
	b := both{a.store.Copy(), slices.Clone(a.plain)}
	for i := range 20 {
		a.add(t, fact("p a "+strconv.Itoa(i)))
		b.add(t, fact("p "+strconv.Itoa(i)+" b"))
		b.add(t, fact("q "+strconv.Itoa(i%7)))
		a.add(t, fact("p "+strconv.Itoa(i%3)+" b"))
		a.add(t, fact("q "+strconv.Itoa(i%3)))
	}
	wantStore(t, a)
	wantStore(t, b)
	wantJoin(t, r, four{a, a, a, a})
	wantJoin(t, r, four{b, b, b, a})
	wantJoin(t, r, four{b, a, b, b})
}

// P17.2

func wantNoCompile(t testing.TB, r api.Rule, wanted api.Errno) {
	t.Helper()
	if j, e := Compile(r); j != nil || e != wanted {
		t.Errorf("Compile(%s) is %v, %v; want %v", say(r), j, e, wanted)
	}
	wantCompile(t, r)
}

// unformed are rules that are not in form, each by one thing, among them some that are safe and some that are not.
func unformed() []api.Rule {
	x := variable("X")
	var all []api.Rule
	for _, says := range []api.LitKind{math.MinInt, -1, 0, 4, 255, 1 << 32, 1<<32 + 1, math.MaxInt} {
		all = append(all, rule(atom("h"), api.Literal{Kind: says, Atom: atom("p")}), rule(atom("h"), positive(atom("p", x)), api.Literal{Kind: says}))
	}
	for _, pred := range []string{"", "not", "input", "output", "P", "1", "_", "a b", "é", strings.Repeat("p", 65)} {
		all = append(all, rule(atom(pred)), rule(atom("h"), positive(atom(pred))), rule(atom("h"), negative(atom(pred))))
	}
	for _, name := range []string{"", "x", "1", "_X", "X Y", strings.Repeat("X", 65)} {
		bad := variable(name)
		all = append(all, rule(atom("h", bad), positive(atom("p", bad))), rule(atom("h"), positive(atom("p", bad))), rule(atom("h"), positive(atom("p", x)), unlike(x, bad)), rule(atom("h"), unlike(bad, x)))
	}
	long := constant(strings.Repeat("a", api.MaxText+1))
	all = append(all, rule(atom("h", long)), rule(atom("h"), positive(atom("p", long))), rule(atom("h"), unlike(long, x)), rule(atom("h"), unlike(constant(""), long)))
	many := slices.Repeat([]api.Term{x}, api.MaxArity+1)
	all = append(all, rule(atom("h", many...), positive(atom("p", x))), rule(atom("h"), positive(atom("p", many...))), rule(atom("h"), negative(atom("p", many...))))
	all = append(all, rule(atom("h"), slices.Repeat([]api.Literal{positive(atom("p"))}, api.MaxBody+1)...))
	for _, says := range []api.LitKind{api.Positive, api.Negative} {
		all = append(all, rule(atom("h"), api.Literal{Kind: says, Atom: atom("p"), Left: constant("a")}), rule(atom("h"), api.Literal{Kind: says, Atom: atom("p"), Right: x}))
	}
	test, other := unlike(constant("a"), constant("b")), unlike(constant("a"), constant("b"))
	test.Atom.Pred = "p"
	other.Atom.Args = []api.Term{constant("a")}
	return append(all, rule(atom("h"), test), rule(atom("h"), other), api.Rule{})
}

func TestRulesThatAreNotInForm(t *testing.T) {
	for _, r := range unformed() {
		wantNoCompile(t, r, api.ErrArg)
		// What is not in form goes ahead of what is not safe.
		r.Head.Args = append(slices.Clone(r.Head.Args), variable("Loose"))
		wantNoCompile(t, r, api.ErrArg)
	}
}

func TestRulesThatAreNotSafe(t *testing.T) {
	for _, text := range []string{"h(X)", "h(a, X)", "h(X) :- p(Y)", "h :- not p(X)", "h :- X != a", "h :- a != X", "h :- X != X", "h(X) :- not p(X), X != Y", "h :- p(X), not q(X, Y)", "h :- p(X), X != Y", "h(X) :- not p(X), X != a"} {
		wantNoCompile(t, read(t, text), api.ErrUnsafe)
	}
}

func TestRulesAtTheBounds(t *testing.T) {
	var head []api.Term
	var body []api.Literal
	for i := range api.MaxBody {
		var terms []api.Term
		for k := range api.MaxArity {
			terms = append(terms, variable("V"+strconv.Itoa(i*api.MaxArity+k)))
		}
		head = terms
		body = append(body, positive(atom(strings.Repeat("p", api.MaxName), terms...)))
	}
	j := wantCompile(t, rule(atom("h", head...), body...))
	if vars := j.Vars(); len(vars) != 4096 || vars[0] != "V4080" || vars[16] != "V0" || vars[4095] != "V4079" {
		t.Errorf("%d variables", len(vars))
	}
	long := constant(strings.Repeat("a", api.MaxText))
	j = wantCompile(t, rule(atom("h", long), unlike(long, constant("")), negative(atom("p", long))))
	wantMatches(t, j.Each(nil, nil), long.Text+"/")
}

func TestWhatAJoinTells(t *testing.T) {
	for _, text := range []string{"h", "h(a)", "h(a, B) :- p(B)", "h(Z, a, Y) :- not p(X), X != Y, q(A, Z, Y, A), r(X, Z), a != A", "h :- not p, q, a != b", "h :- p, p, p", "h(X, X) :- p(X, X)"} {
		wantCompile(t, read(t, text))
	}
}

func TestNoJoins(t *testing.T) {
	s := storeOf(t, "p a")
	for _, j := range []*Join{nil, {}, new(Join)} {
		if !isNothing(j.Rule()) || j.Vars() != nil || j.Positives() != 0 {
			t.Errorf("it is of %s, with %v and %d positives", say(j.Rule()), j.Vars(), j.Positives())
		}
		wantMatches(t, j.Each(s.store, s.store))
		wantMatches(t, j.Each(nil, nil))
		for _, k := range []int{-1, 0, 1} {
			wantMatches(t, j.Delta(k, s.store, s.store, s.store, s.store))
		}
	}
}

// P17.3

// Rules of all sorts over some stores, in which the same constants have unlike numbers.
func TestEach(t *testing.T) {
	s := storeOf(t, "e a b", "e b c", "e c a", "e a a", "e", "e b", "v a", "v c", "w a b a", "w b b b", "w b a c", "n 1 01", "n 1 1")
	not := storeOf(t, "z", "v c", "v b", "e c", "e c b", "e a a", "w b a b", "e", "v q")
	for _, text := range []string{
		"t(X, Y) :- e(X, Y)", "t(Y, X, Y) :- e(X, Y)", "t(k, X, k) :- e(X, Y)", "t :- e(X, Y)",
		"t(X) :- e(X, X)", "t(X) :- w(X, X, X)", "t(X, Y) :- w(X, Y, X)", "t(X, Y) :- w(X, X, Y)", "t(X, Y) :- w(Y, X, X)",
		"t(X) :- w(X, b, X)", "t(X) :- w(b, X, Y), e(X, X)", "t(X) :- e(a, X)", "t(X) :- e(X, nobody)", "t(X) :- e(X, z)",
		"t :- e", "t :- not e", "t :- e, not v(a)", "t :- e(X)", "t(X) :- e(X), not e(X, X)", "t(X) :- nobody(X)", "t :- nobody", "t :- not nobody", "t(X) :- e(X), not nobody(X, X)",
		"t(X, Z) :- e(X, Y), e(Y, Z)", "t(X, Z) :- e(X, Y), e(Y, Z), not e(X, Z)", "t(X) :- v(X), not v(X)", "t(X, Y) :- v(X), v(Y), X != Y",
		"t(X) :- e(X, Y), X != Y", "t(X) :- e(X, Y), X != X", "t(X) :- e(X, Y), a != a", "t(X) :- e(X, Y), a != b", "t(X) :- v(X), X != c", "t(X) :- v(X), c != X", "t(X) :- v(X), X != nobody",
		"t :- a != b", "t :- a != a", "t(a) :- a != b, b != a", "t(a)", "t(a, a, b)", "t :- not v(q)", "t :- not v(a)", "t :- not v(nobody)",
		"t(X) :- e(X, Y), e(X, Y)", "t(X) :- e(X, Y), not v(Y), not v(X)", "t(X) :- not w(b, X, b), e(X, b)",
		"t(X) :- n(X, X)", "t(X) :- n(X, Y), X != Y", "t :- n(1, 1)", "t :- n(01, 1)",
		"t(A, B, C) :- e(A, B), e(B, C), e(C, A)", "t(A, B, C) :- e(A, B), v(C)", "t(A, B) :- w(A, B, C), w(C, A, B)", "t(X) :- v(X), e, e(b)",
	} {
		r := read(t, text)
		wantJoin(t, r, four{s, s, s, not})
		wantJoin(t, r, four{s, not, s, s})
		wantJoin(t, r, four{not, s, s, not})
		wantJoin(t, r, four{both{}, s, not, both{}})
		wantJoin(t, r, four{s, s, both{}, s})
	}
}

// Each variable has a value of its own, however many there are.
func TestWideTuples(t *testing.T) {
	var terms, turned []api.Term
	var tuple, wanted []string
	for i := range api.MaxArity {
		terms = append(terms, variable("V"+strconv.Itoa(i)))
		tuple = append(tuple, "c"+strconv.Itoa(i))
	}
	turned, wanted = slices.Clone(terms), slices.Clone(tuple)
	slices.Reverse(turned)
	slices.Reverse(wanted)
	s := storeOf(t)
	s.add(t, api.Fact{Pred: "p", Tuple: tuple})
	s.add(t, api.Fact{Pred: "p", Tuple: wanted})
	j := compiled(t, rule(atom("h", turned...), positive(atom("p", terms...)), negative(atom("q", turned...)), positive(atom("p", turned...))))
	forth, back := strings.Join(tuple, " "), strings.Join(wanted, " ")
	wantMatches(t, j.Each(s.store, s.store), back+"/"+back, forth+"/"+forth)
	wantMatches(t, j.Delta(1, s.store, s.store, nil, nil), back+"/"+back, forth+"/"+forth)
}

// Constants are any texts, in the rule, in the stores, in both.
func TestAnyConstants(t *testing.T) {
	all := []string{"", " ", "a", "A", "X", "a\x00", "\x00", "\n", "é", "\xff", "not", "1", "01", strings.Repeat("x", 1024), strings.Repeat("x", 1023)}
	s, not := storeOf(t), storeOf(t)
	for i, one := range all {
		s.add(t, api.Fact{Pred: "p", Tuple: []string{one, all[len(all)-1-i]}})
		if i%2 > 0 {
			not.add(t, api.Fact{Pred: "q", Tuple: []string{all[len(all)-1-i]}})
		}
	}
	x, y := variable("X"), variable("Y")
	for _, one := range all {
		r := rule(atom("h", x, constant(one)), positive(atom("p", x, y)), negative(atom("q", y)), unlike(x, constant(one)))
		wantJoin(t, r, four{s, s, s, not})
		r = rule(atom("h", y), positive(atom("p", constant(one), y)), positive(atom("p", y, constant(one))))
		wantJoin(t, r, four{s, s, s, s})
	}
}

// P17.4

// Each positive is looked for in its own store, what is denied in another one.
func TestWhereIsLooked(t *testing.T) {
	f := four{storeOf(t, "p o", "q o"), storeOf(t, "p d"), storeOf(t, "p a"), storeOf(t, "p n", "p o", "p d", "p a")}
	j := join(t, "t(A, B, C) :- p(A), p(B), p(C)")
	wantMatches(t, f.walk(j, 0), "d a a/d a a")
	wantMatches(t, f.walk(j, 1), "o d a/o d a")
	wantMatches(t, f.walk(j, 2), "o o d/o o d")
	// Positives are counted without the others.
	j = join(t, "t(A, B) :- not q(A), A != B, p(A), not q(B), not q(k), p(B)")
	wantMatches(t, f.walk(j, 0), "d a/d a")
	wantMatches(t, f.walk(j, 1), "o d/o d")
	wantMatches(t, f.walk(j, 2))
	for _, text := range []string{"t(A) :- p(A), not p(A)", "t(A) :- p(A), not p(n)"} {
		wantMatches(t, f.walk(join(t, text), 0))
	}
	wantMatches(t, f.walk(join(t, "t(A) :- p(A), not q(A)"), 0), "d/d")
	wantMatches(t, f.walk(join(t, "t :- not q(o)"), 0))
}

func TestDeltasOfNoStores(t *testing.T) {
	s, none := storeOf(t, "p a", "q a"), both{}
	j := join(t, "t(A) :- p(A), q(A)")
	wantMatches(t, four{none, s, s, none}.walk(j, 0), "a/a")
	wantMatches(t, four{s, s, none, none}.walk(j, 1), "a/a")
	wantMatches(t, four{s, none, s, s}.walk(j, 0))
	wantMatches(t, four{s, s, none, s}.walk(j, 0))
	wantMatches(t, four{none, s, s, s}.walk(j, 1))
}

func TestNoPositiveOfThatNumber(t *testing.T) {
	s := storeOf(t, "p a")
	for _, text := range []string{"t", "t(a)", "t :- not q", "t :- a != b", "t(X) :- p(X)", "t(X) :- not q, p(X), X != b"} {
		j := join(t, text)
		for _, k := range []int{math.MinInt, -2, -1, j.Positives(), j.Positives() + 1, 1 << 32, math.MaxInt} {
			wantMatches(t, four{s, s, s, s}.walk(j, k))
		}
	}
}

// P17.5

func TestWhatIsAddedMeanwhile(t *testing.T) {
	b := storeOf(t, "e a b", "e b c")
	j := join(t, "e(Y, X) :- e(X, Y)")
	turns := 0
	for m := range j.Each(b.store, b.store) {
		b.add(t, api.Fact{Pred: "e", Tuple: m.Head})
		turns++
	}
	if turns != 2 || b.store.Len() != 4 {
		t.Errorf("%d turns; there are %d", turns, b.store.Len())
	}
	wantMatches(t, j.Each(b.store, nil), "a b/a b", "b a/b a", "b c/b c", "c b/c b")
}

// Nothing that comes behind a walk's first turn is seen: not in a relation that was there, not in one that was not, not by old constants or by new ones, not where it is denied.
func TestNothingOfMeanwhileIsSeen(t *testing.T) {
	s, not := storeOf(t, "p a", "p b", "q a", "q c", "q b"), storeOf(t, "r c")
	for _, row := range []struct{ rule, wanted string }{
		{"t(X, Y) :- p(X), q(Y)", "a a,a b,a c,b a,b b,b c"},
		{"t(X, Y) :- p(X), q(Y), not r(Y)", "a a,a b,b a,b b"},
		{"t(X, Y) :- p(X), q(Y), not n(Y)", "a a,a b,a c,b a,b b,b c"},
		{"t(X, Y) :- p(X), q(Y), not r(new)", "a a,a b,a c,b a,b b,b c"},
		{"t(X, X) :- p(X), q(X)", "a a,b b"},
		{"t(X, X) :- p(X), q(X), not r(X)", "a a,b b"},
		{"t(X, X) :- p(X), q(X), not n(X)", "a a,b b"},
	} {
		s, not := both{s.store.Copy(), slices.Clone(s.plain)}, both{not.store.Copy(), slices.Clone(not.plain)}
		var got []string
		for m := range join(t, row.rule).Each(s.store, not.store) {
			got = append(got, strings.Join(m.Head, " "))
			for _, text := range []string{"p c", "q d", "p new", "q new", "q " + strconv.Itoa(len(got)), "p " + strconv.Itoa(len(got))} {
				s.add(t, fact(text))
			}
			for _, text := range []string{"r a", "r b", "r new", "n a", "n b", "n c"} {
				not.add(t, fact(text))
			}
		}
		slices.Sort(got)
		if strings.Join(got, ",") != row.wanted {
			t.Errorf("of %s heads are %v; want %s", row.rule, got, row.wanted)
		}
		wantJoin(t, read(t, row.rule), four{s, s, s, not})
	}
}

// A relation that is not there when a walk begins has nothing in it, also when it comes.
func TestRelationsThatComeMeanwhile(t *testing.T) {
	b := storeOf(t, "p a", "p b")
	for _, text := range []string{"t(X) :- p(X), q(X)", "t(X) :- q(X), p(X)"} {
		w := join(t, text).Each(b.store, b.store)
		for range w {
			t.Errorf("of %s something is told", text)
		}
	}
	turns := 0
	for m := range join(t, "t(X) :- p(X), not q(X)").Each(b.store, b.store) {
		b.add(t, fact("q a"))
		b.add(t, fact("q b"))
		turns += len(m.Head)
	}
	if turns != 2 {
		t.Errorf("%d turns", turns)
	}
}

// A walk begins when it is gone over, not when it is asked for.
func TestWalksBeginAnew(t *testing.T) {
	b, d := storeOf(t), storeOf(t)
	j := join(t, "t(X, Y) :- p(X), q(Y), not r(Y)")
	each, delta := j.Each(b.store, b.store), j.Delta(1, b.store, d.store, nil, b.store)
	wantMatches(t, each)
	b.add(t, fact("p a"))
	b.add(t, fact("q b"))
	wantMatches(t, each, "a b/a b")
	wantMatches(t, delta)
	d.add(t, fact("q c"))
	d.add(t, fact("q d"))
	wantMatches(t, delta, "a c/a c", "a d/a d")
	b.add(t, fact("r c"))
	b.add(t, fact("r b"))
	wantMatches(t, delta, "a d/a d")
	wantMatches(t, each)
}

func TestWalksWithinWalks(t *testing.T) {
	b := storeOf(t, "e a b", "e b c", "e c a")
	w := join(t, twoSteps).Each(b.store, b.store)
	whole := texts(w)
	turns := 0
	for outer := range w {
		before := line(outer)
		for middle := range w {
			if got := texts(w); !slices.Equal(got, whole) {
				t.Errorf("within others told is %v", got)
			}
			if line(middle) == before {
				turns++
			}
		}
		if line(outer) != before {
			t.Errorf("it was %s; is %s", before, line(outer))
		}
	}
	if turns != 3 || len(whole) != 3 {
		t.Errorf("%d turns; told is %v", turns, whole)
	}
}

// A walk may be left behind any match, and tells no more then.
func TestWalksThatAreLeft(t *testing.T) {
	b := storeOf(t, "p a", "p b", "p c", "q a", "q b", "r")
	for _, text := range []string{"t(X, Y) :- p(X), q(Y)", "t(X, Y) :- p(X), r, q(Y), not r(X), X != Y, r", "t", "t :- r", "t(X, X, X) :- p(X), p(X)", "t :- not q"} {
		j := join(t, text)
		for _, w := range []func(func(api.Match) bool){j.Each(b.store, b.store), j.Delta(0, b.store, b.store, b.store, b.store)} {
			whole := texts(w)
			for far := range len(whole) {
				var got []string
				w(func(m api.Match) bool {
					got = append(got, line(m))
					return len(got) <= far
				})
				if len(got) != far+1 {
					t.Errorf("of %s, left behind the match %d, %d are told", text, far, len(got))
				}
			}
			if again := texts(w); !slices.Equal(again, whole) {
				t.Errorf("of %s told was %v; is %v", text, whole, again)
			}
		}
	}
}

func TestWalksChangeNothing(t *testing.T) {
	b, not := storeOf(t, "e a b", "e b c", "e c a", "v b"), storeOf(t, "v a", "w")
	for _, text := range []string{twoSteps, "t(new) :- e(X, Y), not v(Y), e(Y, newer), X != other", "t(X) :- e(X, Y), not v(newest)", "e(X, Z) :- e(X, Y), e(Y, Z), v(Y)"} {
		j := join(t, text)
		r := j.Rule()
		wantJoin(t, r, four{b, not, b, not})
		wantStore(t, b)
		wantStore(t, not)
		if wantCompile(t, r); !sameRule(j.Rule(), r) {
			t.Errorf("the rule was %s; is %s", say(r), say(j.Rule()))
		}
	}
}
