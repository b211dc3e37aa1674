package strata

import (
	"fmt"
	"reflect"
	"slices"
	"strconv"
	"strings"
	"testing"

	"inkling/api"
	"inkling/parse"
	"inkling/roles"
)

func variable(text string) api.Term { return api.Term{Var: true, Text: text} }

func constant(text string) api.Term { return api.Term{Text: text} }

func atom(pred string, args ...api.Term) api.Atom { return api.Atom{Pred: pred, Args: args} }

func positive(a api.Atom) api.Literal { return api.Literal{Kind: api.Positive, Atom: a} }

func negative(a api.Atom) api.Literal { return api.Literal{Kind: api.Negative, Atom: a} }

func unlike(left, right api.Term) api.Literal {
	return api.Literal{Kind: api.Unlike, Left: left, Right: right}
}

func rule(head api.Atom, body ...api.Literal) api.Rule { return api.Rule{Head: head, Body: body} }

func rules(list ...api.Rule) api.Program { return api.Program{Rules: list} }

// ruleOf is the rule without terms that gives just this Dep.
func ruleOf(dep api.Dep) api.Rule {
	if dep.Negative {
		return rule(atom(dep.Head), negative(atom(dep.Body)))
	}
	return rule(atom(dep.Head), positive(atom(dep.Body)))
}

// say is a thing as a text, cut where it is long.
func say(x any) string {
	text := fmt.Sprintf("%+v", x)
	return text[:min(len(text), 600)]
}

func read(t testing.TB, text string) api.Program {
	t.Helper()
	p, _, at, e := parse.Program(text)
	if e != api.OK {
		t.Fatalf("%q is no program's text: %d, %v", text, at, e)
	}
	return p
}

// tiers are predicates and their strata in turn, between blanks.
func tiers(text string) []api.Tier {
	var list []api.Tier
	for pair := range slices.Chunk(strings.Fields(text), 2) {
		stratum, _ := strconv.Atoi(pair[1])
		list = append(list, api.Tier{Pred: pair[0], Stratum: stratum})
	}
	return list
}

// deps are Deps as 'p q' and 'p not q', with commas between.
func deps(text string) []api.Dep {
	var list []api.Dep
	for piece := range strings.SplitSeq(text, ",") {
		if words := strings.Fields(piece); len(words) > 0 {
			list = append(list, api.Dep{Head: words[0], Body: words[len(words)-1], Negative: len(words) == 3})
		}
	}
	return list
}

// parts are lists of numbers, with strokes between; of no text there are none.
func parts(text string) [][]int {
	var list [][]int
	if text == "" {
		return nil
	}
	for piece := range strings.SplitSeq(text, "/") {
		var numbers []int
		for _, word := range strings.Fields(piece) {
			number, _ := strconv.Atoi(word)
			numbers = append(numbers, number)
		}
		list = append(list, numbers)
	}
	return list
}

func wantGood(t testing.TB, text string, wanted api.Errno) {
	t.Helper()
	p := read(t, text)
	if e := Good(p); e != wanted {
		t.Errorf("Good(%s) is %v; want %v", text, e, wanted)
	}
	wantLaws(t, p)
}

func wantDeps(t testing.TB, text, wanted string) {
	t.Helper()
	p := read(t, text)
	if got, e := Deps(p); !slices.Equal(got, deps(wanted)) || e != api.OK {
		t.Errorf("Deps(%s) is %v, %v; want %s", text, got, e, wanted)
	}
	wantLaws(t, p)
}

func wantLevels(t testing.TB, text, wanted, rules string) {
	t.Helper()
	p := read(t, text)
	if got, e := Levels(p); !slices.Equal(got, tiers(wanted)) || e != api.OK {
		t.Errorf("Levels(%s) is %v, %v; want %s", text, got, e, wanted)
	}
	if got, e := Parts(p); !slices.EqualFunc(got, parts(rules), slices.Equal) || e != api.OK {
		t.Errorf("Parts(%s) is %v, %v; want %s", text, got, e, rules)
	}
	if got, e := Round(p); got != nil || e != api.OK {
		t.Errorf("Round(%s) is %v, %v; want none, OK", text, got, e)
	}
	wantLaws(t, p)
}

// wantRound takes the Deps of the one way round that there is, beginning with any of them.
func wantRound(t testing.TB, text, wanted string) {
	t.Helper()
	p := read(t, text)
	got, e := Round(p)
	same := false
	for i := range got {
		same = same || slices.Equal(slices.Concat(got[i:], got[:i]), deps(wanted))
	}
	if !same || e != api.OK {
		t.Errorf("Round(%s) is %v, %v; want %s", text, got, e, wanted)
	}
	wantNoLevels(t, p, api.ErrCycle)
	wantLaws(t, p)
}

// wantRoundOf takes how many Deps a shortest way round has, where there are several such ones.
func wantRoundOf(t testing.TB, text string, length int) {
	t.Helper()
	p := read(t, text)
	if got, e := Round(p); len(got) != length || !isRound(p, got) || e != api.OK {
		t.Errorf("Round(%s) is %v, %v; want one of %d", text, got, e, length)
	}
	wantNoLevels(t, p, api.ErrCycle)
	wantLaws(t, p)
}

func wantNoLevels(t testing.TB, p api.Program, wanted api.Errno) {
	t.Helper()
	if got, e := Levels(p); got != nil || e != wanted {
		t.Errorf("Levels(%s) is %v, %v; want none, %v", say(p), got, e, wanted)
	}
	if got, e := Parts(p); got != nil || e != wanted {
		t.Errorf("Parts(%s) is %v, %v; want none, %v", say(p), got, e, wanted)
	}
}

func wantFits(t testing.TB, text, strata string, wanted bool) {
	t.Helper()
	p, l := read(t, text), tiers(strata)
	if got := Fits(p, l); got != wanted || plainFits(p, l) != wanted {
		t.Errorf("Fits(%s; %s) is %v; want %v", text, strata, got, wanted)
	}
}

// wantRefused: a program that layer 11 does not take.
func wantRefused(t testing.TB, p api.Program, wanted api.Errno) {
	t.Helper()
	wantNoLevels(t, p, wanted)
	got, e := Deps(p)
	way, roundError := Round(p)
	if got != nil || e != wanted || way != nil || roundError != wanted || Good(p) != wanted {
		t.Errorf("of %s: Deps %v, %v; Round %v, %v; Good %v; want %v", say(p), got, e, way, roundError, Good(p), wanted)
	}
	var l []api.Tier
	for _, pred := range plainPreds(p) {
		l = append(l, api.Tier{Pred: pred, Stratum: len(l)})
	}
	if Fits(p, nil) || Fits(p, l) {
		t.Errorf("of %s something fits", say(p))
	}
}

// wantLaws holds what is promised of every program.
func wantLaws(t testing.TB, p api.Program) {
	t.Helper()
	before := copyProgram(p)
	if e := Good(p); e != plainGood(p) {
		t.Errorf("Good(%s) is %v; want %v", say(p), e, plainGood(p))
	}
	if _, e := roles.Check(p); e != api.OK {
		wantRefused(t, p, e)
	} else {
		wantWords(t, p)
		wantStrata(t, p)
		wantTurned(t, p)
	}
	if !reflect.DeepEqual(copyProgram(p), before) {
		t.Errorf("what was handed in was\n%s; is\n%s", say(before), say(p))
	}
}

// wantWords holds the answers against the document's words.
func wantWords(t testing.TB, p api.Program) {
	t.Helper()
	if got, e := Deps(p); !slices.Equal(got, plainDeps(p)) || e != api.OK {
		t.Errorf("Deps(%s) is %v, %v; want %v", say(p), got, e, plainDeps(p))
	}
	way, e := Round(p)
	if len(way) != plainRound(p) || len(way) > 0 && !isRound(p, way) || e != api.OK {
		t.Errorf("Round(%s) is %v, %v; want one of %d", say(p), way, e, plainRound(p))
	}
	wanted, ok := plainLevels(p)
	// There are levels just if there is no way round.
	if ok != (len(way) == 0) {
		t.Errorf("of %s there are levels: %v; a way round: %v", say(p), ok, way)
	}
	if !ok {
		wantNoLevels(t, p, api.ErrCycle)
		return
	}
	if got, e := Levels(p); !slices.Equal(got, wanted) || e != api.OK {
		t.Errorf("Levels(%s) is %v, %v; want %v", say(p), got, e, wanted)
	}
	if got, e := Parts(p); !slices.EqualFunc(got, plainParts(p, wanted), slices.Equal) || e != api.OK {
		t.Errorf("Parts(%s) is %v, %v; want %v", say(p), got, e, plainParts(p, wanted))
	}
}

// wantStrata is about P14.5 and P14.7: the Levels fit; no predicate of them can be lower; they have no gaps.
func wantStrata(t testing.TB, p api.Program) {
	t.Helper()
	least, e := Levels(p)
	if e != api.OK {
		wantNoneFits(t, p)
		return
	}
	raised := slices.Clone(least)
	met := make([]int, len(least))
	for i := range raised {
		raised[i].Stratum += 3
		met[least[i].Stratum]++
	}
	if !Fits(p, least) || !Fits(p, raised) {
		t.Errorf("of %s do not fit %v, or %v", say(p), least, raised)
	}
	if gap := slices.Index(met, 0); gap >= 0 && slices.Max(met[gap:]) > 0 {
		t.Errorf("Levels(%s) is %v: with a gap", say(p), least)
	}
	for i, tier := range least {
		for stratum := -1; stratum < tier.Stratum; stratum++ {
			lower := slices.Clone(least)
			lower[i].Stratum = stratum
			if Fits(p, lower) {
				t.Errorf("of %s fit %v, lower than %v", say(p), lower, least)
			}
		}
		turned := slices.Clone(least)
		turned[0], turned[i] = turned[i], turned[0]
		for _, other := range [][]api.Tier{slices.Delete(slices.Clone(least), i, i+1), slices.Insert(slices.Clone(least), i, tier), turned} {
			if got := Fits(p, other); got != plainFits(p, other) || got != (i == 0 && len(other) == len(least)) {
				t.Errorf("Fits(%s; %v) is %v", say(p), other, got)
			}
		}
	}
}

// wantNoneFits: of a program without strata no levels fit; all at one, rising and falling ones are tried.
func wantNoneFits(t testing.TB, p api.Program) {
	t.Helper()
	preds := plainPreds(p)
	for step := -1; step <= 1; step++ {
		var l []api.Tier
		for i, pred := range preds {
			l = append(l, api.Tier{Pred: pred, Stratum: len(preds) + step*i})
		}
		if Fits(p, l) {
			t.Errorf("of %s, which has no strata, %v fit", say(p), l)
		}
	}
}

// wantTurned: another order of rules or of literals changes nothing but the rules' numbers.
func wantTurned(t testing.TB, p api.Program) {
	t.Helper()
	q := copyProgram(p)
	slices.Reverse(q.Rules)
	for _, r := range q.Rules {
		slices.Reverse(r.Body)
	}
	wantSame(t, p, q)
}

func wantSame(t testing.TB, p, q api.Program) {
	t.Helper()
	first, firstError := Deps(p)
	second, secondError := Deps(q)
	if !slices.Equal(first, second) || firstError != secondError {
		t.Errorf("Deps(%s) is %v, %v; in another order %v, %v", say(p), first, firstError, second, secondError)
	}
	least, leastError := Levels(p)
	other, otherError := Levels(q)
	if !slices.Equal(least, other) || leastError != otherError {
		t.Errorf("Levels(%s) is %v, %v; in another order %v, %v", say(p), least, leastError, other, otherError)
	}
	if Good(p) != Good(q) {
		t.Errorf("Good(%s) is %v; in another order %v", say(p), Good(p), Good(q))
	}
}

// copyProgram and the like copy all of it; lists without things are nil in the copy.
func copyProgram(p api.Program) api.Program {
	q := api.Program{Inputs: copyList(p.Inputs), Outputs: copyList(p.Outputs), Rules: copyList(p.Rules)}
	for i, r := range q.Rules {
		q.Rules[i] = copyRule(r)
	}
	return q
}

func copyRule(r api.Rule) api.Rule {
	q := api.Rule{Head: copyAtom(r.Head), Body: copyList(r.Body)}
	for i := range q.Body {
		q.Body[i].Atom = copyAtom(q.Body[i].Atom)
	}
	return q
}

func copyAtom(a api.Atom) api.Atom { return api.Atom{Pred: a.Pred, Args: copyList(a.Args)} }

func copyList[T any](list []T) []T { return append([]T(nil), list...) }
