package plan

import (
	"math"
	"math/rand"
	"reflect"
	"slices"
	"strconv"
	"sync"
	"testing"
	"unsafe"

	"inkling/api"
	"inkling/parse"
)

// tally counts rules by what is told of them, so that a test tells when it met too few.
type tally struct {
	classes map[api.Errno]int
	better  int // of which Least's plan costs less than Make's
}

func (c *tally) look(t testing.TB, r api.Rule, l []api.Size) {
	t.Helper()
	wantLaws(t, r, l)
	p, e := Make(r, l, -1)
	c.classes[e]++
	made, _ := Cost(p, l)
	if _, least, other := Least(r, l); other == api.OK && least < made {
		c.better++
	}
}

// All rules of up to three of these literals, with two heads, over some sizes.
func TestAllSmallRules(t *testing.T) {
	x, y, a := variable("X"), variable("Y"), constant("X")
	pool := []api.Literal{
		positive(atom("q", x)), positive(atom("r", y, x)), positive(atom("r", x, x)), positive(atom("q", a)), positive(atom("s")),
		negative(atom("q", x)), negative(atom("r", a, y)), negative(atom("s")),
		unlike(x, y), unlike(a, a), {Kind: 4, Atom: atom("q", x)},
	}
	heads := []api.Atom{atom("p"), atom("p", x, a)}
	count := tally{classes: map[api.Errno]int{}}
	all := [][]api.Size{nil, sizes(size("q", 5, 5), size("r", 20, 2, 10), size("s", 1)), sizes(size("r", 3, 3, 1), size("q", 7, 1), size("s", 0))}
	var grow func(body []api.Literal)
	grow = func(body []api.Literal) {
		for i, l := range all {
			count.look(t, rule(heads[i%2], body...), l)
		}
		if len(body) == 3 {
			return
		}
		for _, l := range pool {
			grow(append(slices.Clip(body), l))
		}
	}
	grow(nil)
	for _, class := range []api.Errno{api.OK, api.ErrArg, api.ErrUnsafe} {
		if count.classes[class] < 500 {
			t.Errorf("met: %+v", count)
		}
	}
}

// All steps there may be for a small rule, of which the right ones make right plans, in the orders in which each is ready.
func TestAllPlansOfARule(t *testing.T) {
	r := read(t, "h :- e(X, Y), not p(X), X != Y")
	var all []api.Step
	for literal := range 3 {
		for _, bound := range [][]int{nil, {0}, {1}, {0, 1}, {1, 0}} {
			for _, names := range [][]string{nil, {"X"}, {"Y"}, {"X", "Y"}, {"Y", "X"}} {
				all = append(all, api.Step{Literal: literal, Bound: bound, New: names})
			}
		}
	}
	met := 0
	for _, first := range all {
		for _, second := range all {
			for i, third := range all {
				// Of the last steps a few are enough, but for the first ones that may be right.
				if third.Literal == first.Literal && i%7 > 0 {
					continue
				}
				if Right(api.Plan{Rule: r, Steps: []api.Step{first, second, third}}) {
					met++
					wantRight(t, api.Plan{Rule: r, Steps: []api.Step{first, second, third}}, true)
				}
			}
		}
	}
	if met != 2 {
		t.Errorf("%d plans are right", met)
	}
}

func TestDrawnRules(t *testing.T) {
	count := tally{classes: map[api.Errno]int{}}
	for seed, d := range []drawer{{names: 2}, {names: 4}, {names: 8}, {names: 3, looseness: 6}, {names: 3, looseness: 3}, {names: 3, unformed: 20}, {names: 3, wrong: 20}} {
		d.r = rand.New(rand.NewSource(int64(160 + seed)))
		for range 250 {
			count.look(t, d.rule(5), d.sizes())
		}
	}
	for _, class := range []api.Errno{api.OK, api.ErrArg, api.ErrUnsafe} {
		if count.classes[class] < 50 || count.better < 50 {
			t.Errorf("met: %+v", count)
		}
	}
}

// Bodies of as many literals as Least takes, and of more.
func TestDrawnLongerRules(t *testing.T) {
	d := drawer{r: rand.New(rand.NewSource(166)), names: 5}
	better := 0
	for range 40 {
		r, l := d.rule(2), d.sizes()
		for len(r.Body) < api.MaxLeast {
			r.Body = append(r.Body, d.literal())
		}
		wantLeastOf(t, r, l)
		p, _ := Make(r, l, -1)
		made, _ := Cost(p, l)
		if _, least, _ := Least(r, l); least < made {
			better++
		}
		for range 6 {
			r.Body = append(r.Body, d.literal())
		}
		wantMakes(t, r, l)
		wantNoLeast(t, r, l, api.ErrArg)
	}
	if better < 5 {
		t.Errorf("%d times alone Least is better", better)
	}
}

// Plans that are drawn, near those that are right.
func TestDrawnPlans(t *testing.T) {
	d := drawer{r: rand.New(rand.NewSource(167)), names: 4, looseness: 50}
	met := map[bool]int{}
	for range 1500 {
		r, l := d.rule(6), d.sizes()
		p, e := Make(r, l, -1)
		if e != api.OK {
			continue
		}
		for range 4 {
			p = d.changed(p)
			right := plainRight(p)
			wantRight(t, p, right)
			if right {
				wantPlan(t, p, l)
			} else {
				wantNoRows(t, p, l, api.ErrPlan)
			}
			met[right]++
		}
	}
	if met[true] < 500 || met[false] < 500 {
		t.Errorf("met: %v", met)
	}
}

func TestDrawnRelations(t *testing.T) {
	d := drawer{r: rand.New(rand.NewSource(168)), names: 1}
	for range 2000 {
		l := d.relations()
		wantSizes(t, l, plainSizes(l)...)
	}
}

// Another name for each variable gives another New, and nothing else.
func TestRenamedRules(t *testing.T) {
	d := drawer{r: rand.New(rand.NewSource(169)), names: 6}
	other := func(name string) string { return "R" + string('Z'-name[0]+'A') }
	renamed := func(p api.Plan) api.Plan {
		p = bare(p)
		for _, term := range termsOf(&p.Rule) {
			if term.Var {
				term.Text = other(term.Text)
			}
		}
		for i, step := range p.Steps {
			p.Steps[i].New = slices.Clone(step.New)
			for k, name := range step.New {
				p.Steps[i].New[k] = other(name)
			}
		}
		return p
	}
	for range 500 {
		r, l := d.rule(6), d.sizes()
		q := renamed(api.Plan{Rule: r}).Rule
		p, e := Make(r, l, -1)
		if got, other := Make(q, l, -1); e != api.OK || other != e || !same(got, renamed(p)) {
			t.Errorf("Make(%s) is %s, %v; renamed %s, %v", say(r), say(p), e, say(got), other)
		}
		p, cost, e := Least(r, l)
		if got, least, other := Least(q, l); other != e || least != cost || !same(got, renamed(p)) {
			t.Errorf("Least(%s) is %s, %v, %v; renamed %s, %v, %v", say(r), say(p), cost, e, say(got), least, other)
		}
	}
}

// termsOf are all terms of a rule.
func termsOf(r *api.Rule) []*api.Term {
	var all []*api.Term
	for i := range r.Head.Args {
		all = append(all, &r.Head.Args[i])
	}
	for i := range r.Body {
		l := &r.Body[i]
		for k := range l.Atom.Args {
			all = append(all, &l.Atom.Args[k])
		}
		all = append(all, &l.Left, &l.Right)
	}
	return all
}

// greatest is a rule with as many literals, terms and variables as there can be, a third of them tests, which stand ahead.
func greatest() api.Rule {
	r := rule(atom("h"))
	const tests = api.MaxBody / 3
	for i := range api.MaxBody - tests {
		l := positive(atom("p"))
		for k := range api.MaxArity {
			l.Atom.Args = append(l.Atom.Args, variable("X"+strconv.Itoa(i*api.MaxArity+k)))
		}
		r.Body = append(r.Body, l)
	}
	for i := range tests {
		test := negative(atom("q"))
		for k := range api.MaxArity {
			test.Atom.Args = append(test.Atom.Args, variable("X"+strconv.Itoa((i*7+k)*4)))
		}
		r.Body = slices.Insert(r.Body, i, test)
	}
	return r
}

// The document's bounds, and more sizes than there are predicates: no literal is held against all variables, and no predicate against all sizes.
func TestTheGreatestRule(t *testing.T) {
	var l []api.Size
	for i := range 300000 {
		l = append(l, size("p"+strconv.Itoa(i), i, i, i))
	}
	l = append(l, size("p", 10, slices.Repeat([]int{2}, api.MaxArity)...))
	r := greatest()
	for _, first := range []int{-1, api.MaxBody / 3, api.MaxBody - 1} {
		p, e := Make(r, l, first)
		if e != api.OK || len(p.Steps) != api.MaxBody || first >= 0 && p.Steps[0].Literal != first || !Right(p) {
			t.Fatalf("Make of the greatest rule is %s, %v", say(p.Steps), e)
		}
		if _, e := Rows(p, l); e != api.OK {
			t.Errorf("Rows is %v", e)
		}
	}
	for first := range r.Body {
		if _, e := Make(r, nil, first); (e == api.OK) != (r.Body[first].Kind == api.Positive) {
			t.Errorf("Make with %d first is %v", first, e)
		}
	}
	wantNoLeast(t, r, l, api.ErrArg)
	r.Body = append(r.Body, r.Body[0])
	wantNoMake(t, r, l, -1, api.ErrArg)
}

// answers are all answers of a rule.
type answers struct {
	made, least api.Plan
	rows        []float64
	cost        float64
	errors      [3]api.Errno
	right       bool
}

func answersOf(r api.Rule, l []api.Size) answers {
	var all answers
	all.made, all.errors[0] = Make(r, l, -1)
	all.least, all.cost, all.errors[1] = Least(r, l)
	all.rows, all.errors[2] = Rows(all.made, l)
	all.right = Right(all.least)
	return all
}

// sample has many variables, so that a map's order would be seen.
func sample(t testing.TB) (api.Rule, []api.Size) {
	t.Helper()
	r := read(t, `h(A, "B") :- not q(C, B, A), q(A, B, C), D != E, r(E, F, G, H, D), s(H, G, F, I, J, K, a), not t(I, J, "K")`)
	return r, sizes(size("q", 10, 3, 2, 1), size("r", 7, 5, 5), size("s", 4, 1, 1, 1, 1, 1, 1, 2), size("q", 9))
}

// The same again, always: a map's order is not to be seen.
func TestTheSameAgain(t *testing.T) {
	r, l := sample(t)
	first := answersOf(r, l)
	if first.errors != [3]api.Errno{} || !first.right {
		t.Fatalf("it is %s", say(first))
	}
	for range 100 {
		if again := answersOf(r, l); !reflect.DeepEqual(again, first) {
			t.Fatalf("it was %s; is %s", say(first), say(again))
		}
	}
}

// FuzzPlan takes a rule's text, a first literal, sizes as bytes, and an order of steps.
func FuzzPlan(f *testing.F) {
	f.Add(example+".", -1, []byte{100, 10, 8, 8}, []byte{1, 2, 0})
	f.Add("h :- not p(1), e(a, b).", 1, []byte{}, []byte{0, 1})
	f.Add("h(X) :- p(Y).", 0, []byte{255, 1}, []byte{0})
	f.Add("h :- p(X), X != a, q(Y), not p(Y).", 2, []byte{3, 2, 3, 2}, []byte{3, 1, 0, 2})
	f.Fuzz(func(t *testing.T, text string, first int, numbers, order []byte) {
		r, _, e := parse.Rule(text)
		if e != api.OK || len(text) > 300 || len(r.Body) > 7 || len(numbers) > 40 {
			return
		}
		var l []api.Size
		for i, number := range numbers {
			rows := int(number) << (number % 25)
			if i%2 == 0 && i/2 < len(r.Body) {
				l = append(l, size(r.Body[i/2].Atom.Pred, rows))
			} else if len(l) > 0 {
				last := &l[len(l)-1]
				last.Distinct = append(last.Distinct, rows)
			}
		}
		wantLaws(t, r, l)
		if wanted, e := plainMake(r, l, first); e != api.OK {
			wantNoMake(t, r, l, first, e)
		} else if p, e := Make(r, l, first); e != api.OK || !same(p, plainPlan(r, wanted)) {
			t.Errorf("Make(%s, %d) is %s, %v; want %v", text, first, say(p), e, wanted)
		}
		p, _ := Make(r, l, -1)
		for i, number := range order {
			if i < len(p.Steps) {
				p.Steps[i].Literal = int(number)
			}
		}
		p.Rule = r
		wantRight(t, p, plainRight(p))
	})
}

// What is handed in stays as it was, and no answer hangs on it.

// roomy has the same things with spare room behind, in which other things stand.
func roomy[T any](list []T, other T) []T {
	room := append(slices.Clone(list), other, other, other)
	return room[:len(list)]
}

func roomyRule(r api.Rule) api.Rule {
	spare := variable("Spare")
	q := api.Rule{Head: atom(r.Head.Pred, roomy(r.Head.Args, spare)...), Body: roomy(r.Body, positive(atom("spare", spare)))}
	for i, l := range q.Body {
		q.Body[i].Atom.Args = roomy(l.Atom.Args, spare)
	}
	return q
}

func roomySizes(l []api.Size) []api.Size {
	l = roomy(l, size("spare", -1))
	for i := range l {
		l[i].Distinct = roomy(l[i].Distinct, -1)
	}
	return l
}

func roomyPlan(p api.Plan) api.Plan {
	q := api.Plan{Rule: roomyRule(p.Rule), Steps: roomy(p.Steps, api.Step{Literal: -1})}
	for i, step := range q.Steps {
		q.Steps[i].Bound, q.Steps[i].New = roomy(step.Bound, -1), roomy(step.New, "Spare")
	}
	return q
}

func whole[T any](list []T) []T { return slices.Clone(list[:cap(list)]) }

// withRoom is a copy of a plan and of sizes, spare room included.
func withRoom(p api.Plan, l []api.Size) (api.Plan, []api.Size) {
	q := api.Plan{Rule: rule(atom(p.Rule.Head.Pred, whole(p.Rule.Head.Args)...), whole(p.Rule.Body)...), Steps: whole(p.Steps)}
	for i, l := range q.Rule.Body {
		q.Rule.Body[i].Atom.Args = whole(l.Atom.Args)
	}
	for i, step := range q.Steps {
		q.Steps[i].Bound, q.Steps[i].New = whole(step.Bound), whole(step.New)
	}
	l = whole(l)
	for i := range l {
		l[i].Distinct = whole(l[i].Distinct)
	}
	return q, l
}

func TestWhatIsHandedInStays(t *testing.T) {
	r, l := sample(t)
	made, _ := Make(r, l, -1)
	p := roomyPlan(made)
	r, l = p.Rule, roomySizes(l)
	beforePlan, beforeSizes := withRoom(p, l)
	wantMakes(t, r, l)
	wantLeastOf(t, r, l)
	wantPlan(t, p, l)
	if afterPlan, afterSizes := withRoom(p, l); !reflect.DeepEqual(afterPlan, beforePlan) || !reflect.DeepEqual(afterSizes, beforeSizes) {
		t.Errorf("what was handed in was\n%s\n%s; is\n%s\n%s", say(beforePlan), say(beforeSizes), say(afterPlan), say(afterSizes))
	}
}

func TestRelationsThatAreHandedInStay(t *testing.T) {
	l := roomy([]api.Relation{relation("p", 2, "a b", "c d"), relation("q", 1, "a")}, relation("spare", 9, "a"))
	for i := range l {
		l[i].Tuples = roomy(l[i].Tuples, list("spare"))
		for k, tuple := range l[i].Tuples {
			l[i].Tuples[k] = roomy(tuple, "spare")
		}
	}
	copied := func() []api.Relation {
		all := whole(l)
		for i := range all {
			all[i].Tuples = whole(all[i].Tuples)
			for k, tuple := range all[i].Tuples {
				all[i].Tuples[k] = whole(tuple)
			}
		}
		return all
	}
	before := copied()
	wantSizes(t, l, size("p", 2, 2, 2), size("q", 1, 1))
	if !reflect.DeepEqual(copied(), before) {
		t.Errorf("what was handed in is %s", say(l))
	}
}

// looseText is a text that lies in memory which can be written over.
func looseText(s string) (string, []byte) {
	memory := []byte(s)
	return unsafe.String(unsafe.SliceData(memory), len(memory)), memory
}

// textsOf are all texts of plans, and of sizes.
func textsOf(l []api.Size, plans ...api.Plan) []string {
	var texts []string
	for _, p := range plans {
		texts = append(texts, p.Rule.Head.Pred)
		for _, l := range p.Rule.Body {
			texts = append(texts, l.Atom.Pred)
		}
		for _, term := range termsOf(&p.Rule) {
			texts = append(texts, term.Text)
		}
		for _, step := range p.Steps {
			texts = append(texts, step.New...)
		}
	}
	for _, size := range l {
		texts = append(texts, size.Pred)
	}
	return slices.DeleteFunc(texts, func(s string) bool { return s == "" })
}

// An answer stays when the texts that were handed in are written over, and no two texts of answers lie in one place.
func TestTextsOfAnswersAreApart(t *testing.T) {
	pred, memory := looseText("pred")
	x, more := looseText("Known")
	a, most := looseText("constant")
	r := rule(atom(pred, variable(x), constant(a)), positive(atom(pred, variable(x))), negative(atom(pred, variable(x))), unlike(variable(x), constant(a)))
	made, _ := Make(r, nil, 0)
	least, _, _ := Least(r, nil)
	texts := textsOf(Sizes([]api.Relation{{Pred: pred}, {Pred: pred}}), made, least)
	all := slices.Concat(texts, []string{pred, x, a})
	for i, one := range all {
		for _, other := range all[:i] {
			if unsafe.StringData(one) == unsafe.StringData(other) {
				t.Errorf("of %q two share memory: %q", texts, one)
			}
		}
	}
	clear(memory)
	clear(more)
	clear(most)
	wanted := slices.Repeat(list("pred pred pred Known constant Known Known Known constant Known"), 2)
	if wanted = append(wanted, "pred", "pred"); !slices.Equal(texts, wanted) {
		t.Errorf("the texts are %q; want %q", texts, wanted)
	}
}

func fill[T any](list []T, other T) {
	list = list[:cap(list)]
	for i := range list {
		list[i] = other
	}
}

// scribble writes over all lists of a plan, spare room included, one after the other, and tells whether another list is changed by it.
func scribble(p api.Plan) bool {
	var lists []func()
	var now []func() any
	put := func(fill func(), tell func() any) {
		lists, now = append(lists, fill), append(now, tell)
	}
	terms := func(l []api.Term) {
		put(func() { fill(l, variable("?")) }, func() any { return slices.Clone(l[:cap(l)]) })
	}
	terms(p.Rule.Head.Args)
	for _, l := range p.Rule.Body {
		terms(l.Atom.Args)
	}
	for _, step := range p.Steps {
		put(func() { fill(step.Bound, 99) }, func() any { return slices.Clone(step.Bound[:cap(step.Bound)]) })
		put(func() { fill(step.New, "?") }, func() any { return slices.Clone(step.New[:cap(step.New)]) })
	}
	put(func() { fill(p.Rule.Body, positive(atom("?"))) }, func() any { return slices.Clone(p.Rule.Body[:cap(p.Rule.Body)]) })
	put(func() { fill(p.Steps, api.Step{Literal: 99}) }, func() any { return slices.Clone(p.Steps[:cap(p.Steps)]) })
	told := func(from int) []any {
		var all []any
		for _, tell := range now[from:] {
			all = append(all, tell())
		}
		return all
	}
	for i, write := range lists[:len(lists)-2] {
		rest := told(i + 1)
		write()
		// The lists of literals and of steps have these lists in them, but are not changed by them.
		if after := told(i + 1); !reflect.DeepEqual(after[:len(after)-2], rest[:len(rest)-2]) {
			return true
		}
	}
	lists[len(lists)-2]()
	lists[len(lists)-1]()
	return false
}

func TestListsOfAnswersAreApart(t *testing.T) {
	r, l := sample(t)
	first, second := answersOf(r, l), answersOf(r, l)
	if scribble(first.made) || scribble(first.least) {
		t.Error("two lists of a plan share memory")
	}
	fill(first.rows, -1)
	if third := answersOf(r, l); !reflect.DeepEqual(second, third) {
		t.Errorf("beside answers that were changed there are\n%s\n%s", say(second), say(third))
	}
	if q, m := sample(t); !reflect.DeepEqual(r, q) || !reflect.DeepEqual(l, m) {
		t.Errorf("what was handed in is %s; %s", say(r), say(l))
	}
	relations := []api.Relation{relation("p", 2, "a b"), relation("q", 2, "a b")}
	told, again := Sizes(relations), Sizes(relations)
	fill(told[0].Distinct, 99)
	if !slices.Equal(told[1].Distinct, []int{1, 1}) || !slices.Equal(again[0].Distinct, []int{1, 1}) {
		t.Errorf("beside sizes that were changed there are %v, %v", told, again)
	}
}

// Nothing is kept from call to call, so any number may call at once (go test -race would tell).
func TestManyCallAtOnce(t *testing.T) {
	r, l := sample(t)
	wanted := answersOf(r, l)
	var all sync.WaitGroup
	for range 8 {
		all.Go(func() {
			for range 20 {
				if got := answersOf(r, l); !reflect.DeepEqual(got, wanted) {
					t.Errorf("it is %s", say(got))
				}
			}
		})
	}
	all.Wait()
}

// Beside errors stand zero answers, in whatever way they come about.
func TestNothingBesideErrors(t *testing.T) {
	d := drawer{r: rand.New(rand.NewSource(170)), names: 3, looseness: 6, unformed: 6, wrong: 6}
	for range 1000 {
		r, l := d.rule(4), d.sizes()
		all := answersOf(r, l)
		if (all.errors[0] != api.OK) != isNothing(all.made) || (all.errors[1] != api.OK) && (!isNothing(all.least) || all.cost != 0) || math.IsNaN(all.cost) || math.IsInf(all.cost, 0) {
			t.Errorf("of %s, %s it is %s", say(r), say(l), say(all))
		}
	}
}
