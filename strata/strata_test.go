package strata

import (
	"math"
	"slices"
	"strings"
	"testing"

	"inkling/api"
)

// The chapter's examples.
func TestExamples(t *testing.T) {
	wantLevels(t, "p :- not q. q :- r. r.", "p 1 q 0 r 0", "1 / 0")
	wantLevels(t, "a :- not b. b :- not c. c :- d. e :- a, d.", "a 2 b 1 c 0 d 0 e 2", "2 / 1 / 0 3")
	wantLevels(t, "t(X,Y) :- e(X,Y). t(X,Z) :- t(X,Y), e(Y,Z). n(X,Y) :- v(X), v(Y), not t(X,Y).", "e 0 n 1 t 0 v 0", "0 1 / 2")
	wantRound(t, "p :- not p.", "p not p")
	wantRound(t, "p :- q. q :- not r. r :- p, s.", "p q, q not r, r p")
	wantLevels(t, "p :- q. q :- p. q :- not s.", "p 1 q 1 s 0", " / 0 1 2")
	wantLevels(t, "", "", "")
	wantLevels(t, "p(X) :- not q(X).", "p 1 q 0", " / 0")
	wantGood(t, "p(X) :- not q(X).", api.ErrUnsafe)
	for strata, wanted := range map[string]bool{"p 5 q 2": true, "p 1 q 1": false, "p 1": false, "q 0 p 1": false, "p 0 q -1": false} {
		wantFits(t, "p :- not q.", strata, wanted)
	}
}

// The document's examples of the whole that are about strata and what is good.
func TestExamplesOfTheWhole(t *testing.T) {
	paths := `input e/2 "f". output t/2. t(X, Y) :- e(X, Y). t(X, Z) :- e(X, Y), t(Y, Z).`
	wantGood(t, paths, api.OK)
	wantLevels(t, paths, "e 0 t 0", "0 1")
	wantLevels(t, paths+" output s/1. s(X) :- e(X, Y), not t(X, X).", "e 0 s 1 t 0", "0 1 / 2")
	wantLevels(t, "output p/0. p.", "p 0", " ")
	wantLevels(t, "output p/0. p :- q. output q/0.", "p 0 q 0", "0")
	wantGood(t, "win(X) :- move(X, Y), not win(Y).", api.ErrCycle)
	wantRound(t, "win(X) :- move(X, Y), not win(Y).", "win not win")
	for _, text := range []string{"p(X) :- q(Y).", "p(X) :- not q(X).", "p :- X != a."} {
		wantGood(t, text, api.ErrUnsafe)
	}
	wantGood(t, "p(X) :- q(X). p(a).", api.ErrMixed)
	wantGood(t, "p(a). p(a, b).", api.ErrArity)
	wantGood(t, "p(X) :- q(Y). p(a, b).", api.ErrArity)
}

// P14.1

func TestGood(t *testing.T) {
	wantGood(t, "", api.OK)
	wantGood(t, `input p/1 "f". output q/2. r(a).`, api.OK)
	wantGood(t, "p(X) :- q(X, Y), not r(Y), X != Y. q(a, b). r(a).", api.OK)
	wantGood(t, "p :- p.", api.OK)
	// A fact with a variable is no safe rule.
	wantGood(t, "p(X).", api.ErrUnsafe)
	wantGood(t, "p :- q. r(X) :- q.", api.ErrUnsafe)
	wantGood(t, "p :- not q. q :- not p.", api.ErrCycle)
	wantGood(t, "a :- b. p :- q, not r. q :- r. r :- p.", api.ErrCycle)
}

// Of several faults the first class is told, whichever statement has it.
func TestTheOrderOfFaults(t *testing.T) {
	faults := []string{"a :- not a.", "b(X) :- c.", "d :- e. d.", "f. f(a)."}
	classes := []api.Errno{api.ErrCycle, api.ErrUnsafe, api.ErrMixed, api.ErrArity, api.ErrArg}
	for which := 1; which < 32; which++ {
		var texts []string
		wanted := api.OK
		for i, class := range classes {
			if which>>i&1 == 1 {
				wanted = class
				texts = append(texts, append(faults, "")[i])
			}
		}
		for range 2 {
			p := read(t, strings.Join(texts, " "))
			if which >= 16 {
				p.Outputs = append(p.Outputs, api.Output{Pred: "X"})
			}
			if e := Good(p); e != wanted {
				t.Errorf("Good(%s) is %v; want %v", say(p), e, wanted)
			}
			wantLaws(t, p)
			slices.Reverse(texts)
		}
	}
}

// P14.2

func TestDeps(t *testing.T) {
	wantDeps(t, "", "")
	wantDeps(t, `input p/1 "f". output q/0. r(a).`, "")
	wantDeps(t, "p :- a != b.", "")
	wantDeps(t, "p :- p.", "p p")
	wantDeps(t, "p :- not p, p.", "p p, p not p")
	// Each once, however often it is said, in one rule or in several.
	wantDeps(t, "p(X) :- q(X), q(a), not r(X), not r(b). p(a) :- q(b), not r(c).", "p q, p not r")
	// By heads, then by bodies, then by the sign.
	wantDeps(t, "b :- not d, d, not c, a. a :- z. ab :- y. aB :- not x.", "a z, aB not x, ab y, b a, b not c, b d, b not d")
	// Terms and unlike literals say nothing.
	wantDeps(t, "p(q, X) :- r(s, X), X != t.", "p r")
	// Whether rules are safe, and whether there are strata, is not asked.
	wantDeps(t, "p(X) :- not q(Y). q(X) :- not p(Z).", "p not q, q not p")
}

// P14.3, P14.4

func TestLevels(t *testing.T) {
	// What inputs, outputs and facts alone name is of the stratum 0, and has no rules.
	wantLevels(t, `input q/1 "f". output p/2.`, "p 0 q 0", " ")
	wantLevels(t, `input q/1 "f". input q/1 "g". output q/1. output q/1. q(a).`, "q 0", " ")
	wantLevels(t, "z. a :- not z. y.", "a 1 y 0 z 0", " / 1")
	wantLevels(t, "p :- p.", "p 0", "0")
	wantLevels(t, "p :- q, not q.", "p 1 q 0", " / 0")
	wantLevels(t, "p :- a != b.", "p 0", "0")
	// The longest way counts, wherever it goes.
	wantLevels(t, "a :- not b. a :- not c. c :- not b.", "a 2 b 0 c 1", " / 2 / 0 1")
	wantLevels(t, "a :- b, not d. b :- not c. d :- e. e :- not f.", "a 2 b 1 c 0 d 1 e 1 f 0", " / 1 2 3 / 0")
	// What is asked of one predicate holds for all that hang on one another.
	wantLevels(t, "a :- b. b :- c. c :- a, not d. e :- a. f :- not b.", "a 1 b 1 c 1 d 0 e 1 f 2", " / 0 1 2 3 / 4")
	// A rule of a predicate that other rules lift stands with them.
	wantLevels(t, "p(a) :- q. p(b) :- not r. r :- q.", "p 1 q 0 r 0", "2 / 0 1")
	// Facts are no rules with a body, but count as rules.
	wantLevels(t, "q. p :- not q. r. s :- p.", "p 1 q 0 r 0 s 1", " / 1 3")
	// Whether rules are safe is not asked.
	wantLevels(t, "p(X) :- not q(Y). q(Z).", "p 1 q 0", " / 0")
}

// P14.6

func TestRound(t *testing.T) {
	wantRound(t, "p :- p, not p.", "p not p")
	wantRound(t, "a :- b. b :- not a. c :- c. d :- a.", "a b, b not a")
	// The fewest Deps, wherever they stand.
	wantRound(t, "a :- not b. b :- c. c :- a. d :- not e. e :- d.", "d not e, e d")
	wantRound(t, "d :- not e. e :- f. f :- d. a :- not a.", "a not a")
	wantRound(t, "p :- not q. q :- r, s. r :- s. s :- p.", "p not q, q s, s p")
	// A shorter way without a negative Dep does not count.
	wantRound(t, "a :- b. b :- a, c. c :- not d. d :- b.", "b c, c not d, d b")
	// Of several any.
	wantRoundOf(t, "a :- not b. b :- not a.", 2)
	wantRoundOf(t, "a :- b, not b. b :- a, not a.", 2)
	wantRoundOf(t, "a :- not a. b :- not b. c :- a, b.", 1)
	wantRoundOf(t, "a :- b. b :- not c. c :- a. x :- not y. y :- z. z :- x.", 3)
}

// Round asks neither for safe rules nor for strata.
func TestRoundOfUnsafeRules(t *testing.T) {
	wantRound(t, "p(X) :- not q(Y). q(Z) :- p(Z).", "p not q, q p")
	if got, e := Round(read(t, "p(X) :- not q(Y).")); got != nil || e != api.OK {
		t.Errorf("Round is %v, %v", got, e)
	}
}

// P14.5

func TestFits(t *testing.T) {
	wantFits(t, "", "", true)
	wantFits(t, "", "p 0", false)
	wantFits(t, "p.", "", false)
	wantFits(t, "p.", "p 7", true)
	wantFits(t, "p.", "p -1", false)
	wantFits(t, "p.", "p 0 p 0", false)
	wantFits(t, "p.", "q 0", false)
	wantFits(t, "p.", "p 0 q 0", false)
	wantFits(t, "p :- p.", "p 3", true)
	wantFits(t, "p :- not p.", "p 3", false)
	wantFits(t, "p :- q.", "p 2 q 2", true)
	wantFits(t, "p :- q.", "p 1 q 2", false)
	wantFits(t, "p :- q.", "p 2 q 0", true)
	wantFits(t, "p :- q, not q.", "p 2 q 2", false)
	wantFits(t, "p :- q, not q.", "p 3 q 2", true)
	wantFits(t, "p :- not q.", "p 3 q 1", true)
	wantFits(t, "p :- not q.", "p 2 q 3", false)
	wantFits(t, "p :- a != b.", "p 0", true)
	wantFits(t, `input q/1 "f". output r/0. p.`, "p 3 q 1 r 2", true)
	wantFits(t, `input q/1 "f". output r/0. p.`, "p 3 q 1", false)
	wantFits(t, `input q/1 "f". output r/0. p.`, "p 3 q 1 q 1", false)
	// Unsafe rules don't matter; a program that layer 11 refuses fits nothing.
	wantFits(t, "p(X) :- q(Y).", "p 0 q 0", true)
	wantFits(t, "p. p(a).", "p 0", false)
	wantFits(t, "p :- q. p.", "p 0 q 0", false)
	// The least and the greatest numbers that there are.
	p := read(t, "p :- not q. r :- q.")
	for _, row := range []struct {
		p, q, r int
		wanted  bool
	}{
		{math.MaxInt, math.MaxInt - 1, math.MaxInt - 1, true},
		{math.MaxInt, math.MaxInt, math.MaxInt, false},
		{math.MaxInt, 0, 0, true},
		{math.MinInt, math.MaxInt, math.MaxInt, false},
		{0, math.MinInt, 0, false},
		{1, 0, math.MinInt, false},
		{1, 0, math.MaxInt, true},
	} {
		l := []api.Tier{{Pred: "p", Stratum: row.p}, {Pred: "q", Stratum: row.q}, {Pred: "r", Stratum: row.r}}
		if got := Fits(p, l); got != row.wanted || plainFits(p, l) != row.wanted {
			t.Errorf("Fits(%v) is %v; want %v", l, got, row.wanted)
		}
	}
}

// Programs that layer 11 refuses.
func TestRefused(t *testing.T) {
	wantRefused(t, read(t, "p(a). p(a, b)."), api.ErrArity)
	wantRefused(t, read(t, "p :- not p. p(a) :- p."), api.ErrArity)
	wantRefused(t, read(t, "p :- q. p."), api.ErrMixed)
	wantRefused(t, read(t, `input p/0 "f". p :- not p.`), api.ErrMixed)
	for _, p := range []api.Program{
		rules(api.Rule{}),
		rules(rule(atom("p"), api.Literal{})),
		rules(rule(atom("p"), api.Literal{Kind: 4, Atom: atom("q")})),
		rules(rule(atom("p"), api.Literal{Kind: -1, Atom: atom("q")})),
		rules(rule(atom("p"), api.Literal{Kind: api.Unlike, Atom: atom("q")})),
		rules(rule(atom("p"), api.Literal{Kind: api.Positive, Atom: atom("q"), Left: constant("a")})),
		rules(rule(atom("p"), negative(atom("P")))),
		rules(rule(atom("not"))),
		rules(rule(atom("p", variable("x")))),
		rules(rule(atom("p", constant(strings.Repeat("a", api.MaxText+1))))),
		rules(rule(atom("p", make([]api.Term, api.MaxArity+1)...))),
		rules(rule(atom("p"), slices.Repeat([]api.Literal{positive(atom("q"))}, api.MaxBody+1)...)),
		rules(rule(atom(strings.Repeat("p", api.MaxName+1)))),
		{Inputs: []api.Input{{Pred: "p", Arity: -1}}},
		{Inputs: []api.Input{{Pred: "p", Arity: math.MaxInt}}},
		{Outputs: []api.Output{{Pred: "p", Arity: math.MinInt}}},
		{Outputs: []api.Output{{}}},
	} {
		wantRefused(t, p, api.ErrArg)
		wantLaws(t, p)
	}
}

// Nil and empty lists mean the same.
func TestNothing(t *testing.T) {
	for _, p := range []api.Program{{}, {Inputs: []api.Input{}, Outputs: []api.Output{}, Rules: []api.Rule{}}} {
		wantLaws(t, p)
		if !Fits(p, nil) || !Fits(p, []api.Tier{}) || Good(p) != api.OK {
			t.Error("nothing does not fit nothing")
		}
	}
	p := rules(api.Rule{Head: api.Atom{Pred: "p", Args: []api.Term{}}, Body: []api.Literal{}}, rule(atom("q"), api.Literal{Kind: api.Negative, Atom: api.Atom{Pred: "p", Args: []api.Term{}}}))
	if got, e := Levels(p); !slices.Equal(got, tiers("p 0 q 1")) || e != api.OK {
		t.Errorf("Levels is %v, %v", got, e)
	}
	wantLaws(t, p)
}
