package join

import (
	"fmt"
	"iter"
	"math"
	"reflect"
	"slices"
	"strconv"
	"strings"
	"testing"

	"inkling/api"
	"inkling/parse"
)

func variable(text string) api.Term { return api.Term{Var: true, Text: text} }

func constant(text string) api.Term { return api.Term{Text: text} }

func atom(pred string, args ...api.Term) api.Atom { return api.Atom{Pred: pred, Args: args} }

func positive(a api.Atom) api.Literal { return api.Literal{Kind: api.Positive, Atom: a} }

func negative(a api.Atom) api.Literal { return api.Literal{Kind: api.Negative, Atom: a} }

func unlike(left, right api.Term) api.Literal {
	return api.Literal{Kind: api.Unlike, Left: left, Right: right}
}

func rule(head api.Atom, body ...api.Literal) api.Rule { return api.Rule{Head: head, Body: body} }

// say is a thing as a text, cut where it is long.
func say(x any) string {
	text := fmt.Sprintf("%+v", x)
	return text[:min(len(text), 600)]
}

// read is the rule of a text without its dot.
func read(t testing.TB, text string) api.Rule {
	t.Helper()
	r, at, e := parse.Rule(text + ".")
	if e != api.OK {
		t.Fatalf("%q is no rule's text: %d, %v", text, at, e)
	}
	return r
}

func compiled(t testing.TB, r api.Rule) *Join {
	t.Helper()
	j, e := Compile(r)
	if j == nil || e != api.OK {
		t.Fatalf("Compile(%s) is %v, %v", say(r), j, e)
	}
	return j
}

func join(t testing.TB, text string) *Join {
	t.Helper()
	return compiled(t, read(t, text))
}

// fact is a fact as 'p a b'.
func fact(text string) api.Fact {
	words := strings.Fields(text)
	return api.Fact{Pred: words[0], Tuple: words[1:]}
}

// both is a store with its measure beside it. Of none the store is nil.
type both struct {
	store *Store
	plain plainStore
}

func (b *both) add(t testing.TB, f api.Fact) {
	t.Helper()
	wanted := b.plain.add(f)
	if came, e := b.store.Add(f); came != wanted || e != api.OK {
		t.Errorf("Add(%s) is %v, %v; want %v", say(f), came, e, wanted)
	}
}

func storeOf(t testing.TB, facts ...string) both {
	t.Helper()
	b := both{store: New()}
	for _, text := range facts {
		b.add(t, fact(text))
	}
	return b
}

// line tells a match so that unlike ones have unlike texts.
func line(m api.Match) string { return fmt.Sprintf("%q/%q", m.Head, m.Values) }

// texts are those of a walk's matches, rising: their order is free.
func texts(w iter.Seq[api.Match]) []string {
	var all []string
	for m := range w {
		all = append(all, line(m))
	}
	slices.Sort(all)
	return all
}

func textsOf(list []api.Match) []string { return texts(slices.Values(list)) }

// wantMatches is about a walk, gone over twice; wanted are heads and values as 'a b/c d'.
func wantMatches(t testing.TB, w iter.Seq[api.Match], wanted ...string) {
	t.Helper()
	var list []api.Match
	for _, text := range wanted {
		head, values, _ := strings.Cut(text, "/")
		list = append(list, api.Match{Head: strings.Fields(head), Values: strings.Fields(values)})
	}
	for range 2 {
		if got := texts(w); !slices.Equal(got, textsOf(list)) {
			t.Errorf("told is %s; want %s", say(got), say(wanted))
		}
	}
}

// wantStore holds a store against its measure.
func wantStore(t testing.TB, b both) {
	t.Helper()
	if b.store.Len() != len(b.plain) {
		t.Errorf("Len is %d; want %d", b.store.Len(), len(b.plain))
	}
	model := b.store.Model()
	if wanted := b.plain.model(); !sameRelations(model, wanted) {
		t.Errorf("Model is %s; want %s", say(model), say(wanted))
	}
	for _, r := range append(model, api.Relation{Pred: "nobody", Arity: 1}) {
		for _, arity := range []int{r.Arity, r.Arity + 1, -1} {
			got, wanted := b.store.Tuples(r.Pred, arity), b.plain.tuples(r.Pred, arity)
			if !sameTuples(got, wanted) {
				t.Errorf("Tuples(%s, %d) is %s; want %s", r.Pred, arity, say(got), say(wanted))
			}
		}
	}
	for _, f := range b.plain {
		wantHas(t, b, f)
		wantHas(t, b, api.Fact{Pred: f.Pred, Tuple: append(slices.Clip(f.Tuple), "a")})
		if len(f.Tuple) > 0 {
			turned := slices.Clone(f.Tuple)
			slices.Reverse(turned)
			wantHas(t, b, api.Fact{Pred: f.Pred, Tuple: turned})
			wantHas(t, b, api.Fact{Pred: f.Pred, Tuple: turned[1:]})
			wantHas(t, b, api.Fact{Pred: f.Pred + "x", Tuple: turned})
		}
	}
}

func wantHas(t testing.TB, b both, f api.Fact) {
	t.Helper()
	if got := b.store.Has(f); got != b.plain.has(f) {
		t.Errorf("Has(%s) is %v", say(f), got)
	}
}

// Lists without things may be nil or not, which means the same.

func sameTuples(a, b [][]string) bool {
	return slices.EqualFunc(a, b, func(x, y []string) bool { return slices.Equal(x, y) })
}

func sameRelations(a, b []api.Relation) bool {
	return slices.EqualFunc(a, b, func(x, y api.Relation) bool {
		return x.Pred == y.Pred && x.Arity == y.Arity && sameTuples(x.Tuples, y.Tuples)
	})
}

func sameRule(a, b api.Rule) bool {
	sameAtom := func(x, y api.Atom) bool { return x.Pred == y.Pred && slices.Equal(x.Args, y.Args) }
	return sameAtom(a.Head, b.Head) && slices.EqualFunc(a.Body, b.Body, func(x, y api.Literal) bool {
		return x.Kind == y.Kind && sameAtom(x.Atom, y.Atom) && x.Left == y.Left && x.Right == y.Right
	})
}

// wantCompile is about what Compile says of any rule, and what a join tells of it.
func wantCompile(t testing.TB, r api.Rule) *Join {
	t.Helper()
	j, e := Compile(r)
	if wanted := plainCompile(r); e != wanted || (j != nil) != (e == api.OK) {
		t.Errorf("Compile(%s) is %v, %v; want %v", say(r), j, e, wanted)
	}
	if e != api.OK {
		return nil
	}
	if !sameRule(j.Rule(), r) || !slices.Equal(j.Vars(), plainVars(r)) || j.Positives() != plainPositives(r) {
		t.Errorf("of %s Rule is %s, Vars %v, Positives %d", say(r), say(j.Rule()), j.Vars(), j.Positives())
	}
	return j
}

// four are the stores of a Delta.
type four struct{ old, delta, all, not both }

func (f four) walk(j *Join, k int) iter.Seq[api.Match] {
	return j.Delta(k, f.old.store, f.delta.store, f.all.store, f.not.store)
}

func (f four) plain(r api.Rule, k int) []api.Match {
	if k < 0 || k >= plainPositives(r) {
		return nil
	}
	return plainMatches(r, func(i int) plainStore {
		switch {
		case i < k:
			return f.old.plain
		case i == k:
			return f.delta.plain
		}
		return f.all.plain
	}, f.not.plain)
}

func plainEach(r api.Rule, s, not both) []api.Match {
	return plainMatches(r, func(int) plainStore { return s.plain }, not.plain)
}

// wantJoin holds all walks of a rule against the measure, whatever the four stores have.
func wantJoin(t testing.TB, r api.Rule, f four) {
	t.Helper()
	j := wantCompile(t, r)
	if j == nil {
		return
	}
	for _, s := range []both{f.old, f.delta, f.all} {
		wantWalk(t, r, j.Each(s.store, f.not.store), plainEach(r, s, f.not))
	}
	for _, k := range []int{math.MinInt, -2, -1, j.Positives(), j.Positives() + 1, math.MaxInt} {
		wantWalk(t, r, f.walk(j, k), nil)
	}
	for k := range j.Positives() {
		wantWalk(t, r, f.walk(j, k), f.plain(r, k))
	}
}

func wantWalk(t testing.TB, r api.Rule, w iter.Seq[api.Match], wanted []api.Match) {
	t.Helper()
	if got := texts(w); !slices.Equal(got, textsOf(wanted)) {
		t.Errorf("of %s told is %s; want %s", say(r), say(got), say(textsOf(wanted)))
	}
}

// together has what stands in both.
func together(t testing.TB, a, b both) both {
	t.Helper()
	c := storeOf(t)
	for _, f := range slices.Concat(b.plain, a.plain) {
		c.add(t, f)
	}
	return c
}

// wantDeltas holds what P17.6 says of the Deltas, of any old and delta.
func wantDeltas(t testing.TB, j *Join, old, delta, not both) {
	t.Helper()
	f := four{old: old, delta: delta, all: together(t, old, delta), not: not}
	before, after := texts(j.Each(old.store, not.store)), texts(j.Each(f.all.store, not.store))
	var told []string
	for k := range j.Positives() {
		told = append(told, texts(f.walk(j, k))...)
	}
	slices.Sort(told)
	apart := !slices.ContainsFunc(old.plain, delta.plain.has)
	if twice := len(slices.Compact(slices.Clone(told))) < len(told); twice && apart {
		t.Errorf("of %s the Deltas tell one twice: %s", say(j.Rule()), say(told))
	}
	for _, one := range after {
		if !slices.Contains(before, one) && !slices.Contains(told, one) {
			t.Errorf("of %s no Delta tells %s", say(j.Rule()), one)
		}
	}
	for _, one := range told {
		if !slices.Contains(after, one) {
			t.Errorf("of %s a Delta tells %s", say(j.Rule()), one)
		}
	}
}

// wantTurned holds a rule against another one with its literals in the order that is told and its variables renamed.
func wantTurned(t testing.TB, r api.Rule, order []int, f four) {
	t.Helper()
	other := func(term api.Term) api.Term {
		if term.Var {
			term.Text = "R" + strconv.Itoa(len(plainVars(r))-slices.Index(plainVars(r), term.Text))
		}
		return term
	}
	turned := api.Rule{Head: renamed(r.Head, other)}
	for _, number := range order {
		l := r.Body[number]
		l.Atom, l.Left, l.Right = renamed(l.Atom, other), other(l.Left), other(l.Right)
		turned.Body = append(turned.Body, l)
	}
	a, b := compiled(t, r), compiled(t, turned)
	var vars []string
	for _, name := range a.Vars() {
		vars = append(vars, other(variable(name)).Text)
	}
	var all []string
	for m := range b.Each(f.all.store, f.not.store) {
		values := make([]string, len(vars))
		for i, name := range vars {
			values[i] = m.Values[slices.Index(b.Vars(), name)]
		}
		all = append(all, line(api.Match{Head: m.Head, Values: values}))
	}
	slices.Sort(all)
	if wanted := texts(a.Each(f.all.store, f.not.store)); !slices.Equal(all, wanted) {
		t.Errorf("of %s told is %s; of %s %s", say(r), say(wanted), say(turned), say(all))
	}
}

func renamed(a api.Atom, other func(api.Term) api.Term) api.Atom {
	a.Args = slices.Clone(a.Args)
	for i, term := range a.Args {
		a.Args[i] = other(term)
	}
	return a
}

// orders tells all orders of so many things.
func orders(count int) iter.Seq[[]int] {
	return func(yield func([]int) bool) {
		var grow func(order []int) bool
		grow = func(order []int) bool {
			if len(order) == count {
				return yield(slices.Clone(order))
			}
			for i := range count {
				if !slices.Contains(order, i) && !grow(append(slices.Clip(order), i)) {
					return false
				}
			}
			return true
		}
		grow(nil)
	}
}

func isNothing(r api.Rule) bool { return reflect.DeepEqual(r, api.Rule{}) }
