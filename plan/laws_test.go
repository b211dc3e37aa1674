package plan

import (
	"fmt"
	"math"
	"reflect"
	"slices"
	"strconv"
	"strings"
	"testing"

	"inkling/api"
	"inkling/parse"
)

func variable(text string) api.Term { return api.Term{Var: true, Text: text} }

func constant(text string) api.Term { return api.Term{Text: text} }

func atom(pred string, args ...api.Term) api.Atom { return api.Atom{Pred: pred, Args: args} }

func positive(a api.Atom) api.Literal { return api.Literal{Kind: api.Positive, Atom: a} }

func negative(a api.Atom) api.Literal { return api.Literal{Kind: api.Negative, Atom: a} }

func unlike(left, right api.Term) api.Literal {
	return api.Literal{Kind: api.Unlike, Left: left, Right: right}
}

func rule(head api.Atom, body ...api.Literal) api.Rule { return api.Rule{Head: head, Body: body} }

func size(pred string, rows int, distinct ...int) api.Size {
	return api.Size{Pred: pred, Rows: rows, Distinct: distinct}
}

func sizes(list ...api.Size) []api.Size { return list }

// say is a thing as a text, cut where it is long.
func say(x any) string {
	text := fmt.Sprintf("%+v", x)
	return text[:min(len(text), 600)]
}

// read is the rule of a text without its dot.
func read(t testing.TB, text string) api.Rule {
	t.Helper()
	r, at, e := parse.Rule(text + ".")
	if e != api.OK {
		t.Fatalf("%q is no rule's text: %d, %v", text, at, e)
	}
	return r
}

// list is the texts that stand between blanks.
func list(text string) []string { return strings.Fields(text) }

// steps are steps as '1 bound 0 2 new X Y', with commas between.
func steps(text string) []api.Step {
	var all []api.Step
	for piece := range strings.SplitSeq(text, ",") {
		words := list(piece)
		if len(words) == 0 {
			continue
		}
		var step api.Step
		step.Literal, _ = strconv.Atoi(words[0])
		isNew := false
		for _, word := range words[1:] {
			number, e := strconv.Atoi(word)
			switch {
			case word == "new":
				isNew = true
			case isNew:
				step.New = append(step.New, word)
			case e == nil:
				step.Bound = append(step.Bound, number)
			}
		}
		all = append(all, step)
	}
	return all
}

func planOf(r api.Rule, text string) api.Plan { return api.Plan{Rule: r, Steps: steps(text)} }

// bare is a copy of a plan in which lists without things are nil, so that plans can be held against one another.
func bare(p api.Plan) api.Plan {
	q := api.Plan{Rule: copyOf(p.Rule), Steps: slices.Clone(p.Steps)}
	if len(q.Steps) == 0 {
		q.Steps = nil
	}
	for i, step := range q.Steps {
		q.Steps[i].Bound, q.Steps[i].New = copyList(step.Bound), copyList(step.New)
	}
	return q
}

func copyOf(r api.Rule) api.Rule {
	q := api.Rule{Head: atom(r.Head.Pred, copyList(r.Head.Args)...), Body: copyList(r.Body)}
	for i, l := range q.Body {
		q.Body[i].Atom.Args = copyList(l.Atom.Args)
	}
	return q
}

func copyList[T any](list []T) []T { return append([]T(nil), list...) }

func same(a, b api.Plan) bool { return reflect.DeepEqual(bare(a), bare(b)) }

func isNothing(p api.Plan) bool { return reflect.DeepEqual(p, api.Plan{}) }

func wantMake(t testing.TB, r api.Rule, l []api.Size, first int, text string) {
	t.Helper()
	if p, e := Make(r, l, first); e != api.OK || !same(p, planOf(r, text)) {
		t.Errorf("Make(%s, %s, %d) is %s, %v; want %q", say(r), say(l), first, say(p), e, text)
	}
	wantLaws(t, r, l)
}

func wantNoMake(t testing.TB, r api.Rule, l []api.Size, first int, wanted api.Errno) {
	t.Helper()
	if p, e := Make(r, l, first); e != wanted || !isNothing(p) {
		t.Errorf("Make(%s, %s, %d) is %s, %v; want %v", say(r), say(l), first, say(p), e, wanted)
	}
}

func wantLeast(t testing.TB, r api.Rule, l []api.Size, text string, cost float64) {
	t.Helper()
	if p, c, e := Least(r, l); e != api.OK || c != cost || !same(p, planOf(r, text)) {
		t.Errorf("Least(%s, %s) is %s, %v, %v; want %q, %v", say(r), say(l), say(p), c, e, text, cost)
	}
	wantLaws(t, r, l)
}

func wantNoLeast(t testing.TB, r api.Rule, l []api.Size, wanted api.Errno) {
	t.Helper()
	if p, c, e := Least(r, l); e != wanted || c != 0 || !isNothing(p) {
		t.Errorf("Least(%s, %s) is %s, %v, %v; want %v", say(r), say(l), say(p), c, e, wanted)
	}
}

func wantRight(t testing.TB, p api.Plan, wanted bool) {
	t.Helper()
	if got := Right(p); got != wanted || plainRight(p) != wanted {
		t.Errorf("Right(%s) is %v; want %v", say(p), got, wanted)
	}
}

func wantRows(t testing.TB, p api.Plan, l []api.Size, wanted ...float64) {
	t.Helper()
	wantRight(t, p, true)
	got, e := Rows(p, l)
	if e != api.OK || !slices.Equal(got, wanted) {
		t.Errorf("Rows(%s, %s) is %v, %v; want %v", say(p), say(l), got, e, wanted)
	}
	if cost, e := Cost(p, l); e != api.OK || cost != plainSum(wanted) {
		t.Errorf("Cost(%s, %s) is %v, %v; want %v", say(p), say(l), cost, e, plainSum(wanted))
	}
}

func wantNoRows(t testing.TB, p api.Plan, l []api.Size, wanted api.Errno) {
	t.Helper()
	if got, e := Rows(p, l); e != wanted || got != nil {
		t.Errorf("Rows(%s, %s) is %v, %v; want %v", say(p), say(l), got, e, wanted)
	}
	if cost, e := Cost(p, l); e != wanted || cost != 0 {
		t.Errorf("Cost(%s, %s) is %v, %v; want %v", say(p), say(l), cost, e, wanted)
	}
}

// wantLaws holds what is promised of every rule and all sizes.
func wantLaws(t testing.TB, r api.Rule, l []api.Size) {
	t.Helper()
	wantMakes(t, r, l)
	if len(r.Body) <= 4 {
		wantOrders(t, r, l)
	}
	if len(r.Body) <= api.MaxLeast {
		wantLeastOf(t, r, l)
	}
}

// wantMakes is about Make with each first literal there may be, and some that may not.
func wantMakes(t testing.TB, r api.Rule, l []api.Size) {
	t.Helper()
	for first := -2; first <= len(r.Body)+1; first++ {
		order, wanted := plainMake(r, l, first)
		p, e := Make(r, l, first)
		if e != wanted {
			t.Errorf("Make(%s, %s, %d) is %v; want %v", say(r), say(l), first, e, wanted)
		}
		if e != api.OK {
			wantNoMake(t, r, l, first, wanted)
			continue
		}
		if !same(p, plainPlan(r, order)) {
			t.Errorf("Make(%s, %s, %d) is %s; want the order %v", say(r), say(l), first, say(p), order)
		}
		wantPlan(t, p, l)
	}
}

// wantPlan is about what Rows and Cost tell of a plan that is right, and what P16.6 says of it.
func wantPlan(t testing.TB, p api.Plan, l []api.Size) {
	t.Helper()
	wantRight(t, p, true)
	if !plainUsable(l) {
		wantNoRows(t, p, l, api.ErrArg)
		return
	}
	wantRows(t, p, l, plainRows(p, l)...)
	rows, _ := Rows(p, l)
	cost, _ := Cost(p, l)
	ahead := 1.0
	for i, behind := range rows {
		if math.IsNaN(behind) || behind < 0 || behind > 1e300 || math.IsInf(cost, 0) {
			t.Errorf("Rows(%s, %s) is %v; the cost is %v", say(p), say(l), rows, cost)
		}
		if p.Rule.Body[p.Steps[i].Literal].Kind != api.Positive && behind > ahead {
			t.Errorf("Rows(%s, %s) is %v: more behind the test at %d", say(p), say(l), rows, i)
		}
		ahead = behind
	}
}

// wantOrders is about all orders of a body, of which those are right in which each literal is ready in its turn.
func wantOrders(t testing.TB, r api.Rule, l []api.Size) {
	t.Helper()
	for order := range orders(len(r.Body)) {
		p := plainPlan(r, order)
		if !plainFormed(r) || !plainReadyOrder(r, order) {
			wantRight(t, p, false)
			wantNoRows(t, p, l, api.ErrPlan)
			continue
		}
		wantPlan(t, p, l)
	}
}

// wantLeastOf is about Least, held against all orders, and against Make's.
func wantLeastOf(t testing.TB, r api.Rule, l []api.Size) {
	t.Helper()
	order, cost, wanted := plainLeast(r, l)
	p, got, e := Least(r, l)
	if e != wanted || got != cost {
		t.Errorf("Least(%s, %s) is %s, %v, %v; want %v, %v, %v", say(r), say(l), say(p), got, e, order, cost, wanted)
	}
	if e != api.OK {
		wantNoLeast(t, r, l, wanted)
		return
	}
	if !same(p, plainPlan(r, order)) {
		t.Errorf("Least(%s, %s) is %s; want the order %v", say(r), say(l), say(p), order)
	}
	wantPlan(t, p, l)
	if told, e := Cost(p, l); e != api.OK || told != got {
		t.Errorf("the Cost of Least(%s, %s) is %v, %v; was told to be %v", say(r), say(l), told, e, got)
	}
	for first := -1; first < len(r.Body); first++ {
		if p, e := Make(r, l, first); e == api.OK {
			if other, _ := Cost(p, l); got > other {
				t.Errorf("Least(%s, %s) costs %v; with %d first Make's costs %v", say(r), say(l), got, first, other)
			}
		}
	}
}
