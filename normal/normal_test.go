package normal

import (
	"math"
	"slices"
	"strings"
	"testing"

	"inkling/api"
)

// The chapter's examples, row by row.
func TestExamples(t *testing.T) {
	wantRename(t, "p(X, a) :- q(Y, X), not r(Y)", "p(V0, a) :- q(V1, V0), not r(V1)")
	wantBody(t, "p :- r(X), q(a), q(X), Y != X, q(a)", "p :- q(a), q(X), r(X), X != Y")
	wantInOneForm(t, "p(C) :- p(C), p(A)", "p(V0) :- p(V1), p(V0)")

	x, y := variable("X"), variable("Y")
	put := Put(read(t, "p(X, Y) :- q(X)"), []string{"X", "Y", "X"}, []api.Term{y, constant("a"), constant("b")})
	wantRule(t, "Put", put, "p(Y, a) :- q(Y)")
	if put.Head.Args[0] != y || put.Body[0].Atom.Args[0] == x {
		t.Errorf("Put is %s", say(put))
	}

	wantAlike(t, "p(X) :- q(X, Y), q(Y, X)", "p(A) :- q(B, A), q(A, B)", true)
	wantAlike(t, "p(X) :- q(X, Y)", "p(X) :- q(X, X)", false)

	wantCovers(t, "p(X) :- q(X, Y)", "p(a) :- q(a, b), r(a)", true, false)
	wantCovers(t, "p(X) :- q(X, Y)", "p(Y) :- q(X, Y)", false, false)
	wantCovers(t, "p(a)", "p(a) :- q(X)", true, false)
	wantCovers(t, "p :- X != a", "p :- a != b", true, false)

	wantThin(t, "p(X) :- q(X), r(X). p(X) :- q(X). p(Y) :- q(Y).", "p(X) :- q(X).")

	wantOrder(t, "q(a)", "q(X)", -1)
	wantOrder(t, "q(X)", "q(X, a)", -1)
	wantOrder(t, "not a", "b", 1)
}

// P15.1

func TestOrderOfTerms(t *testing.T) {
	rising := []api.Term{
		constant(""), constant("\x00"), constant("0"), constant("10"), constant("2"), constant("A"), constant("Z"), constant("a"), constant("aa"), constant("b"), constant("é"), constant("\xff"), constant(strings.Repeat("\xff", 2000)),
		variable(""), variable("\x00"), variable("A"), variable("AA"), variable("A_"), variable("Aa"), variable("B"), variable("a"), variable("é"), variable("\xff"),
	}
	for i, a := range rising {
		for k, b := range rising {
			wanted := sign(i - k)
			wantCompare(t, api.Literal{Kind: api.Unlike, Left: a}, api.Literal{Kind: api.Unlike, Left: b}, wanted)
			wantCompare(t, api.Literal{Kind: api.Unlike, Left: rising[5], Right: a}, api.Literal{Kind: api.Unlike, Left: rising[5], Right: b}, wanted)
			wantCompare(t, api.Literal{Kind: api.Positive, Atom: api.Atom{Args: []api.Term{a}}}, api.Literal{Kind: api.Positive, Atom: api.Atom{Args: []api.Term{b}}}, wanted)
		}
	}
}

func sign(i int) int { return min(max(i, -1), 1) }

// Each literal is less than all behind it.
func TestOrderOfLiterals(t *testing.T) {
	x, a := variable("X"), constant("a")
	rising := []api.Literal{
		{Kind: math.MinInt, Atom: atom("z", "Z"), Left: x, Right: x},
		{Kind: -1},
		{},
		{Kind: 0, Right: x},
		{Kind: 0, Left: x},
		{Kind: 0, Atom: atom("a")},
		{Kind: api.Positive},
		{Kind: api.Positive, Atom: atom("", "a")},
		{Kind: api.Positive, Atom: atom("", "X")},
		{Kind: api.Positive, Atom: atom("", "", "")},
		{Kind: api.Positive, Atom: atom("Q", "X")},
		{Kind: api.Positive, Atom: atom("q")},
		{Kind: api.Positive, Atom: atom("q"), Right: a},
		{Kind: api.Positive, Atom: atom("q"), Right: x},
		{Kind: api.Positive, Atom: atom("q"), Left: a},
		{Kind: api.Positive, Atom: atom("q"), Left: x},
		{Kind: api.Positive, Atom: atom("q", "a")},
		{Kind: api.Positive, Atom: atom("q", "b")},
		{Kind: api.Positive, Atom: atom("q", "X")},
		{Kind: api.Positive, Atom: atom("q", "a", "b")},
		{Kind: api.Positive, Atom: atom("q", "a", "X")},
		{Kind: api.Positive, Atom: atom("q", "b", "a")},
		{Kind: api.Positive, Atom: atom("q", "X", "a")},
		{Kind: api.Positive, Atom: atom("q1")},
		{Kind: api.Positive, Atom: atom("qq", "a")},
		{Kind: api.Positive, Atom: atom("r")},
		{Kind: api.Negative},
		{Kind: api.Negative, Atom: atom("a", "X")},
		{Kind: api.Negative, Atom: atom("b")},
		{Kind: api.Unlike},
		{Kind: api.Unlike, Left: a, Right: x},
		{Kind: api.Unlike, Left: x},
		{Kind: api.Unlike, Left: x, Right: a},
		{Kind: api.Unlike, Left: x, Right: x},
		{Kind: api.Unlike, Atom: atom("a")},
		{Kind: 4},
		{Kind: math.MaxInt},
	}
	for i, one := range rising {
		for k, another := range rising {
			wantCompare(t, one, another, sign(i-k))
		}
	}
	for _, kind := range anyKinds {
		for _, other := range anyKinds {
			if got, wanted := Compare(api.Literal{Kind: kind}, api.Literal{Kind: other}), plainCompare(api.Literal{Kind: kind}, api.Literal{Kind: other}); got != wanted {
				t.Errorf("Compare of the kinds %d and %d is %d", kind, other, got)
			}
		}
	}
}

// Heads ahead of bodies, their lengths ahead of their literals; bodies are taken as they stand.
func TestOrderOfRules(t *testing.T) {
	rising := []string{
		"p", "p :- z", "p :- not a", "p :- a, a", "p :- a, b", "p :- a, X != Y", "p :- b, a", "p :- a, a, a",
		"p(a)", "p(a) :- q(a)", "p(a) :- q(b)", "p(a) :- q(X)", "p(b)", "p(X)", "p(X) :- q(X)", "p(X) :- q(Y)", "p(Y) :- q(X)", "p(a, a)", "p1", "q :- a",
	}
	for i, one := range rising {
		for k, another := range rising {
			wantRulesOrder(t, one, another, sign(i-k))
		}
	}
	empty := api.Rule{Head: api.Atom{Args: []api.Term{}}, Body: []api.Literal{}}
	if CompareRules(api.Rule{}, empty) != 0 || CompareRules(empty, api.Rule{}) != 0 {
		t.Errorf("CompareRules of a zero rule and one with empty lists is not 0")
	}
	if Compare(api.Literal{Atom: api.Atom{Args: []api.Term{}}}, api.Literal{}) != 0 {
		t.Errorf("Compare of a zero literal and one with an empty list is not 0")
	}
}

func TestVarsInTheirOrder(t *testing.T) {
	wantVars(t, "p", "")
	wantVars(t, `p("X", a) :- q("Y"), "Z" != b`, "")
	wantVars(t, "p(C, B, C) :- q(D, B), not r(A), F != E, q(A)", "C B D A F E")
	wantVars(t, "p(X) :- Z != Y, q(X, W)", "X Z Y W")
	if got := Vars(api.Rule{}); len(got) != 0 {
		t.Errorf("Vars of a zero rule is %q", got)
	}
	// What a kind does not name counts, too: an atom's terms, then Left, then Right.
	for _, kind := range anyKinds {
		r := rule(atom("p", "D"), api.Literal{Kind: kind, Atom: atom("q", "C", "D"), Left: variable("B"), Right: variable("A")}, positive("r", "E"))
		if got := Vars(r); !slices.Equal(got, []string{"D", "C", "B", "A", "E"}) {
			t.Errorf("of the kind %d Vars is %q", kind, got)
		}
		wantRuleLaws(t, r)
	}
	// Any text is a variable's, the empty one, too.
	r := rule(api.Atom{Args: []api.Term{variable("a"), variable(""), constant("b"), variable("a")}})
	if got := Vars(r); !slices.Equal(got, []string{"a", ""}) {
		t.Errorf("Vars of %s is %q", say(r), got)
	}
	wantRuleLaws(t, r)
}

// P15.2

func TestRename(t *testing.T) {
	wantRename(t, "p", "p")
	wantRename(t, `p(a, "V0") :- q("X")`, `p(a, "V0") :- q("X")`)
	wantRename(t, "p(V1, V0) :- q(V0, V2)", "p(V0, V1) :- q(V1, V2)")
	wantRename(t, "p(V0, V1)", "p(V0, V1)")
	wantRename(t, "p :- Y != X, not q(X), q(Y, Z)", "p :- V0 != V1, not q(V1), q(V0, V2)")
	// Nothing is put in order, nothing left out.
	wantRename(t, "p :- z(B), a(A), z(B), B != B", "p :- z(V0), a(V1), z(V0), V0 != V0")
	wantRename(t, "p(A, B, C, D, E, F, G, H, I, J, K, L) :- q(L, A)", "p(V0, V1, V2, V3, V4, V5, V6, V7, V8, V9, V10, V11) :- q(V11, V0)")
	for _, kind := range anyKinds {
		r := rule(atom("p", "D"), api.Literal{Kind: kind, Atom: atom("q", "C", "D"), Left: variable("B"), Right: variable("A")})
		wanted := rule(atom("p", "V0"), api.Literal{Kind: kind, Atom: atom("q", "V1", "V0"), Left: variable("V2"), Right: variable("V3")})
		wantSameRule(t, "Rename", r, Rename(r), wanted)
		wantRuleLaws(t, r)
	}
}

func TestPut(t *testing.T) {
	wantPut(t, "p(X) :- q(X, Y)", "", "", "p(X) :- q(X, Y)")
	wantPut(t, "p(X) :- q(X, Y)", "X", "", "p(X) :- q(X, Y)")
	wantPut(t, "p(X) :- q(X, Y)", "", "a b", "p(X) :- q(X, Y)")
	wantPut(t, "p(X) :- q(X, Y)", "Z W", "a b", "p(X) :- q(X, Y)")
	wantPut(t, "p(X) :- q(X, Y)", "X", "a b", "p(a) :- q(a, Y)")
	// All at once: what was put is not put for again.
	wantPut(t, "p(X) :- q(X, Y), X != Y, not r(Y)", "X Y", "Y X", "p(Y) :- q(Y, X), Y != X, not r(X)")
	wantPut(t, "p(X, Y, Z)", "X Y Z", "Y Z a", "p(Y, Z, a)")
	wantPut(t, "p(X, Y)", "X Y", "Z Z", "p(Z, Z)")
	// A name counts where it first stands, also if terms does not go as far.
	wantPut(t, "p(X, Y)", "X X Y", "a b c", "p(a, c)")
	wantPut(t, "p(X, Y)", "X Y", "b", "p(b, Y)")
	wantPut(t, "p(X, Y)", "Y X Y X", "b", "p(X, b)")
	wantPut(t, "p(X, Y)", "A B X X", "a b", "p(X, Y)")
	// A constant of the same bytes is no variable.
	wantPut(t, `p("X", X, x)`, "X x", "a b", `p("X", a, x)`)
	names := []string{"", "A"}
	list := []api.Term{constant("empty"), variable("")}
	r := rule(api.Atom{Pred: "p", Args: []api.Term{variable(""), constant("")}}, api.Literal{Kind: api.Positive, Left: variable("A"), Right: variable("")})
	wanted := rule(api.Atom{Pred: "p", Args: []api.Term{constant("empty"), constant("")}}, api.Literal{Kind: api.Positive, Left: variable(""), Right: constant("empty")})
	wantSameRule(t, "Put", r, Put(r, names, list), wanted)
	wantSameRule(t, "Put", r, Put(api.Rule{}, names, list), api.Rule{})
	if !slices.Equal(names, []string{"", "A"}) || !slices.Equal(list, []api.Term{constant("empty"), variable("")}) {
		t.Errorf("what was handed in is %q, %v", names, list)
	}
}

// P15.3

func TestBody(t *testing.T) {
	wantBody(t, "p", "p")
	wantBody(t, "p(B, A)", "p(B, A)")
	wantBody(t, "p :- b, a, b, a", "p :- a, b")
	wantBody(t, "p :- b != a, not b, q(X, Y), not a, q(X), X != a, a != X", "p :- q(X), q(X, Y), not a, not b, a != b, a != X")
	wantBody(t, "p :- Y != X, X != Y, X != X, a != a", "p :- a != a, X != X, X != Y")
	wantBody(t, `p :- "X" != X, X != "X"`, `p :- "X" != X`)
	wantBody(t, "p :- q(X), not q(X), q(a)", "p :- q(a), q(X), not q(X)")
	// What is not unlike is not turned round, and what a kind does not name tells literals from one another.
	x, y := variable("X"), variable("Y")
	for _, kind := range anyKinds {
		r := rule(atom("p"), api.Literal{Kind: kind, Atom: atom("q"), Left: y, Right: x}, api.Literal{Kind: kind, Atom: atom("q"), Left: x, Right: y}, api.Literal{Kind: kind, Atom: atom("q", "X"), Left: x, Right: y})
		wanted := []api.Literal{r.Body[1], r.Body[0], r.Body[2]}
		if kind == api.Unlike {
			wanted = []api.Literal{r.Body[1], r.Body[2]}
		}
		wantSameRule(t, "Body", r, Body(r), rule(r.Head, wanted...))
		wantRuleLaws(t, r)
	}
}

func TestInOneForm(t *testing.T) {
	wantInOneForm(t, "p", "p")
	wantInOneForm(t, "p(B, A) :- q(A, B)", "p(V0, V1) :- q(V1, V0)")
	// In order first, renamed then: what comes out need not be in order.
	wantInOneForm(t, "p(Z) :- q(A), q(Z), q(B)", "p(V0) :- q(V1), q(V2), q(V0)")
	wantInOneForm(t, "p :- X != Y, q(Y), q(X), Y != X", "p :- q(V0), q(V1), V0 != V1")
	wantInOneForm(t, "p(Y) :- Y != X, r(X)", "p(V0) :- r(V1), V1 != V0")
}

// P15.4

func TestProgram(t *testing.T) {
	wantProgram(t, "", "")
	wantProgram(t, `output p/1. p(X) :- q(X), r(X). p(X) :- q(X). p(Y) :- q(Y), q(Y). input q/1 "f".`, `input q/1 "f". output p/1. p(V0) :- q(V0). p(V0) :- q(V0), r(V0).`)
	// Inputs and outputs are as they are: not in order, and some twice.
	wantProgram(t, `input z/1 "g". input a/0 "". input z/1 "g". output z/1. output a/0. output z/1.`, `input z/1 "g". input a/0 "". input z/1 "g". output z/1. output a/0. output z/1.`)
	wantProgram(t, "p(b). p(a). q. p(b). p(a).", "p(a). p(b). q.")
	wantProgram(t, "q(X) :- r(X). p(X, Y). p(A) :- s(A), r(A). p(B) :- r(B), s(B), r(B). p(X).", "p(V0). p(V0) :- r(V0), s(V0). p(V0, V1). q(V0) :- r(V0).")
	// Rules may be alike and have two forms: then both stay.
	wantProgram(t, "p :- q(A, B), q(B, A). p :- q(B, A), q(A, B). p :- q(A, C), q(C, B), q(B, A). p :- q(A, B), q(B, C), q(C, A).",
		"p :- q(V0, V1), q(V1, V0). p :- q(V0, V1), q(V1, V2), q(V2, V0). p :- q(V0, V1), q(V2, V0), q(V1, V2).")
}

// P15.5

func TestAlike(t *testing.T) {
	wantAlike(t, "p", "p", true)
	wantAlike(t, "p", "q", false)
	wantAlike(t, "p", "p(a)", false)
	wantAlike(t, "p(a)", "p(b)", false)
	wantAlike(t, "p(a)", "p(X)", false)
	wantAlike(t, "p(X)", "p(Y)", true)
	wantAlike(t, "p(X, Y)", "p(Y, X)", true)
	wantAlike(t, "p(X, X)", "p(X, Y)", false)
	wantAlike(t, "p(X) :- q(Y)", "p(X) :- q(X)", false)
	wantAlike(t, "p :- q(X), q(Y)", "p :- q(X)", false)
	wantAlike(t, "p :- q(X), q(X), X != Y", "p :- Z != A, q(A)", true)
	wantAlike(t, "p :- q(X), X != Y", "p :- q(X), X != a", false)
	wantAlike(t, "p :- q(X), X != Y", "p :- not q(X), X != Y", false)
	wantAlike(t, "p :- q(X, Y), X != Y", "p :- q(Y, X), X != Y", true)
	wantAlike(t, "p :- q(X, Y), not q(X, Y)", "p :- q(X, Y), not q(Y, X)", false)
	wantAlike(t, "p :- a != b", "p :- b != a", true)
	wantAlike(t, "p :- a != b, b != a", "p :- b != a", true)
	wantAlike(t, "p :- a != b", "p :- a != c", false)
	wantAlike(t, "p :- q(a, X), q(b, X)", "p :- q(b, X), q(a, X)", true)
	wantAlike(t, "p :- q(a, X), q(b, Y)", "p :- q(b, X), q(a, X)", false)
	// Rings of as many edges: one of four, or two of two.
	wantAlike(t, "p :- e(A, B), e(B, C), e(C, D), e(D, A)", "p :- e(A, B), e(B, A), e(C, D), e(D, C)", false)
	wantAlike(t, "p :- e(A, B), e(B, C), e(C, D), e(D, A)", "p :- e(D, B), e(B, C), e(C, A), e(A, D)", true)
	wantAlike(t, "p(A) :- e(A, B), e(B, C), e(C, A)", "p(A) :- e(B, A), e(C, B), e(A, C)", true)
	wantAlike(t, "p(A, B) :- e(A, B), e(B, C), e(C, A)", "p(A, B) :- e(B, A), e(C, B), e(A, C)", false)
}

// What a kind does not name tells rules from one another; one of unlike literals is turned round with its atom as it is.
func TestAlikeBeyondForm(t *testing.T) {
	x, y := variable("X"), variable("Y")
	for _, kind := range anyKinds {
		one := rule(atom("p"), api.Literal{Kind: kind, Atom: atom("q", "X", "Y"), Left: x, Right: y})
		two := rule(atom("p"), api.Literal{Kind: kind, Atom: atom("q", "X", "Y"), Left: y, Right: x})
		both := rule(atom("p"), one.Body[0], two.Body[0])
		wantPairLaws(t, one, two)
		wantPairLaws(t, one, both)
		wantPairLaws(t, one, rule(atom("p"), api.Literal{Kind: kind, Atom: atom("q", "Y", "X"), Left: x, Right: y}))
		wantPairLaws(t, one, rule(atom("p"), api.Literal{Kind: kind, Left: x, Right: y}))
		wantPairLaws(t, one, rule(atom("p"), api.Literal{Kind: kind, Atom: atom("q", "X", "Y"), Left: x}))
		turns := kind == api.Unlike
		if Alike(one, two) != turns || Alike(one, both) != turns || Covers(one, two) != turns || !Covers(one, both) || Covers(both, one) != turns {
			t.Errorf("of the kind %d: Alike %v, %v; Covers %v, %v, %v", kind, Alike(one, two), Alike(one, both), Covers(one, two), Covers(one, both), Covers(both, one))
		}
		for _, other := range anyKinds {
			if l := one.Body[0]; kind != other {
				l.Kind = other
				if r := rule(atom("p"), l); Alike(one, r) || Covers(one, r) || Covers(r, one) {
					t.Errorf("the kinds %d and %d are taken for one", kind, other)
				}
			}
		}
	}
	// The zero constant of what a kind does not name is a constant as any other one.
	wantPairLaws(t, rule(atom("p"), positive("q", "X")), rule(atom("p"), api.Literal{Kind: api.Positive, Atom: atom("q", "X"), Left: y}))
	if !Covers(rule(atom("p"), api.Literal{Kind: api.Positive, Atom: atom("q", "X"), Left: y}), rule(atom("p"), positive("q", "a"))) {
		t.Errorf("no constant is put where a kind does not name a term")
	}
}

func TestCovers(t *testing.T) {
	wantCovers(t, "p", "p", true, true)
	wantCovers(t, "p", "q", false, false)
	wantCovers(t, "p", "p :- q", true, false)
	wantCovers(t, "p(X)", "p(a)", true, false)
	wantCovers(t, "p(X)", "p(X, Y)", false, false)
	wantCovers(t, "p(X, X)", "p(a, a)", true, false)
	wantCovers(t, "p(X, X)", "p(a, b)", false, false)
	wantCovers(t, "p(X, X)", "p(X, Y)", false, true)
	wantCovers(t, "p(X, Y)", "p(Y, X)", true, true)
	// The other rule's variables are terms that may be put, not variables to be put for.
	wantCovers(t, "p(X) :- q(X, Y)", "p(Y) :- q(Y, X)", true, true)
	wantCovers(t, "p(a) :- q(X)", "p(X) :- q(X)", false, false)
	wantCovers(t, `p("X")`, "p(X)", false, true)
	// Several literals may fall on one, and stand more often.
	wantCovers(t, "p :- q(X), q(Y), q(Z)", "p :- q(a)", true, false)
	wantCovers(t, "p :- q(X), q(X)", "p :- q(X)", true, true)
	wantCovers(t, "p :- e(X, Y), e(Y, Z)", "p :- e(X, X)", true, false)
	wantCovers(t, "p :- e(X, Y), e(Y, Z)", "p :- e(X, Y), e(Z, Y)", false, true)
	wantCovers(t, "p :- e(X, Y), e(Y, Z), e(Z, X)", "p :- e(X, Y), e(Y, X)", false, false)
	wantCovers(t, "p :- e(A, B), e(B, C), e(C, D), e(D, A)", "p :- e(X, Y), e(Y, X)", true, false)
	wantCovers(t, "p :- q(X), not q(X)", "p :- q(a), not q(b)", false, false)
	wantCovers(t, "p :- q(X), not r(Y)", "p :- not r(b), q(a)", true, false)
	// Unlike literals, both ways; they say nothing of what terms are.
	wantCovers(t, "p :- X != Y", "p :- a != a", true, false)
	wantCovers(t, "p :- a != X", "p :- b != a", true, false)
	wantCovers(t, "p :- X != a, X != b", "p :- a != c, c != b", true, false)
	wantCovers(t, "p :- X != a, X != b", "p :- a != c, d != b", false, false)
	wantCovers(t, "p(X, Y) :- X != Y", "p(A, B) :- B != A", true, true)
	wantCovers(t, "p :- q(X, Y), X != Y", "p :- q(a, b), b != a", true, false)
	// A literal that can't fail has to stand there, all the same.
	wantCovers(t, "p :- a != b", "p", false, true)
	wantCovers(t, "p :- a != b", "p :- a != c", false, false)
}

// P15.6

func TestThin(t *testing.T) {
	wantThin(t, "", "")
	wantThin(t, `input z/1 "g". input a/0 "". input z/1 "g". output z/1. output z/1.`, `input z/1 "g". input a/0 "". input z/1 "g". output z/1. output z/1.`)
	// Of those that cover one another the first stays.
	wantThin(t, "p(X) :- q(X). p(Y) :- q(Y). p(Z) :- q(Z), q(Z).", "p(X) :- q(X).")
	wantThin(t, "p(Z) :- q(Z), q(Z), q(Y). p(X) :- q(X).", "p(Z) :- q(Z), q(Z), q(Y).")
	// What covers may stand ahead of what is covered, or behind.
	wantThin(t, "p(a). p(b). p(X).", "p(X).")
	wantThin(t, "p(X). p(a). p(b).", "p(X).")
	wantThin(t, "p(a). p(X). p(b). q(a).", "p(X). q(a).")
	// What is left stays as it is, and in its order.
	wantThin(t, "z(Y, X) :- c(X), b(Y), b(Y). a(B) :- c(B). z(A, B) :- b(A), c(B), d. q.", "z(Y, X) :- c(X), b(Y), b(Y). a(B) :- c(B). q.")
	wantThin(t, "p :- X != Y, Y != X. p :- a != b. p :- c != d, r.", "p :- X != Y, Y != X.")
	wantThin(t, "p :- a != b, r(X). p :- r(Y), b != a, s. p :- a != c, r(X).", "p :- a != b, r(X). p :- a != c, r(X).")
	wantThin(t, "p :- a != b, r(X). p :- r(Y), b != a, s. p :- a != X.", "p :- a != X.")
	// No rule covers itself away.
	wantThin(t, "p. p. p.", "p.")
	wantThin(t, "p(X) :- p(X).", "p(X) :- p(X).")
	// Predicates that only stand in what is left out are named no more.
	wantThin(t, "p(X) :- q(X), gone(X). p(X) :- q(X).", "p(X) :- q(X).")
	// The third covers the first, but is covered by the second, which does so, too.
	wantThin(t, "p(X) :- e(X, Y), e(Y, Z), e(Z, W). p(X) :- e(X, Y). p(X) :- e(X, Y), e(Y, Z).", "p(X) :- e(X, Y).")
}

func TestThinBeyondForm(t *testing.T) {
	x, a := variable("X"), constant("a")
	for _, kind := range anyKinds {
		general := rule(atom("p"), api.Literal{Kind: kind, Atom: atom("q", "X"), Left: x, Right: a})
		turned := rule(atom("p"), api.Literal{Kind: kind, Atom: atom("q", "b"), Left: a, Right: constant("b")})
		straight := rule(atom("p"), api.Literal{Kind: kind, Atom: atom("q", "b"), Left: constant("b"), Right: a})
		for _, list := range [][]api.Rule{{general, turned}, {turned, general}, {general, straight}, {straight, general}, {turned, straight}, {turned, straight, general}} {
			wantProgramLaws(t, api.Program{Inputs: []api.Input{{Pred: "Q", Arity: -1}}, Rules: list})
		}
	}
}

// P15.8

func TestModelsStay(t *testing.T) {
	facts := []api.Fact{{Pred: "e", Tuple: []string{"a", "b"}}, {Pred: "e", Tuple: []string{"b", "c"}}, {Pred: "e", Tuple: []string{"c", "b"}}}
	for _, text := range []string{
		`input e/2 "f". output t/2. t(X, Y) :- e(X, Y). t(X, Z) :- e(X, Y), t(Y, Z).`,
		`input e/2 "f". output s/1. t(X, Y) :- e(X, Y). t(X, Z) :- e(X, Y), t(Y, Z). t(X, Z) :- t(X, Y), t(Y, Z), e(X, Y). s(X) :- e(X, Y), not t(X, X). s(A) :- e(A, B), not t(A, A), A != c.`,
		`e(c, a). p(X) :- e(X, Y), X != Y. p(a) :- e(a, Z), a != Z. p(X) :- e(X, Y), e(Z, W), W != Z, Y != X. q(X) :- p(X), not e(X, b).`,
	} {
		p := readProgram(t, text)
		wantProgramLaws(t, p)
		wantOneModel(t, p, facts, strings.Fields("a b c"))
	}
}
