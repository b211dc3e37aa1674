package safe

import (
	"math"
	"slices"
	"strconv"
	"strings"
	"testing"

	"inkling/api"
)

// The chapter's examples, row by row.
func TestExamples(t *testing.T) {
	first := read(t, "p(X, a, Y) :- q(Y, Z), X != W")
	wantVars(t, first, list("X Y Z W"), list("Y Z"))
	wantLoose(t, first, "X")
	wantSafe(t, read(t, "p(X) :- q(X), not r(X)"))

	wantSafe(t, read(t, "p(a)"))
	wantLoose(t, read(t, "p(X)"), "X")
	wantLoose(t, read(t, "p :- not q(X)"), "X")
	wantLoose(t, read(t, "p :- X != X"), "X")

	program := readProgram(t, "p(X) :- q(X). r(X, Y) :- q(Y). s(Z).")
	wantCheck(t, program, 1, "X", api.ErrUnsafe)
	wantFaults(t, program, api.Loose{Rule: 1, Literal: -1, Name: "X"}, api.Loose{Rule: 2, Literal: -1, Name: "Z"})
	wantFaults(t, readProgram(t, "p :- q(X), not r(X, Y), Y != Z."), api.Loose{Rule: 0, Literal: 1, Name: "Y"}, api.Loose{Rule: 0, Literal: 2, Name: "Z"})

	not := read(t, "p :- not r(X, Y)").Body[0]
	wantReady(t, not, list("X"), false)
	wantReady(t, not, list("Y X"), true)
	wantReady(t, read(t, "p :- q(X)").Body[0], nil, true)

	wantWay(t, read(t, "p :- not r(X), q(X), X != Y, s(Y), t"), 1, 0, 3, 2, 4)
	wantNoWay(t, read(t, "p :- q(X), not r(Y)"))
}

// The rules of the whole's fifth example, and its fourth's.
func TestExamplesOfTheWhole(t *testing.T) {
	wantCheck(t, readProgram(t, "p(X) :- q(Y)."), 0, "X", api.ErrUnsafe)
	wantCheck(t, readProgram(t, "p(X) :- not q(X)."), 0, "X", api.ErrUnsafe)
	wantCheck(t, readProgram(t, "p :- X != a."), 0, "X", api.ErrUnsafe)
	wantCheck(t, readProgram(t, "win(X) :- move(X, Y), not win(Y)."), 0, "", api.OK)
	wantCheck(t, readProgram(t, `input e/2 "f". output t/2. t(X, Y) :- e(X, Y). t(X, Z) :- e(X, Y), t(Y, Z).`), 0, "", api.OK)
}

// anyKinds are kinds that are none of the three.
var anyKinds = []api.LitKind{math.MinInt, -3, -2, -1, 0, 4, 5, 255, 1 << 32, 1<<32 + 1, math.MaxInt}

// P12.1

func TestVariablesInTheirOrder(t *testing.T) {
	wantVars(t, api.Rule{}, nil, nil)
	wantVars(t, api.Rule{Head: api.Atom{Args: []api.Term{}}, Body: []api.Literal{}}, nil, nil)
	wantVars(t, read(t, "p"), nil, nil)
	wantVars(t, read(t, "p(a, b) :- q(c), not r(a), a != b"), nil, nil)
	wantVars(t, read(t, "p(B, A, B)"), list("B A"), nil)
	wantVars(t, read(t, "p :- q(B), not r(C), q(A), D != E"), list("B C A D E"), list("B A"))
	wantVars(t, read(t, "p :- Z != A, not q(C, B)"), list("Z A C B"), nil)
	wantVars(t, read(t, "p(C) :- not q(A, B), r(B, A, C), s(A, D, C)"), list("C A B D"), list("B A C D"))
	wantVars(t, read(t, "p(X) :- q(X, X), q(X, X), not q(X, X), X != X"), list("X"), list("X"))
	wantVars(t, read(t, "p :- X != Y, Y != X, q(Y, X)"), list("X Y"), list("Y X"))
}

// A constant is no variable, whatever its text is; two variables are the same just if their texts are.
func TestWhatIsAVariable(t *testing.T) {
	wantVars(t, read(t, `p("X", X) :- q("Y", X), not r("Z"), "W" != "V"`), list("X"), list("X"))
	wantLoose(t, read(t, `p(X) :- q("X")`), "X")
	wantSafe(t, read(t, `p("X") :- q("Y"), not r("Z"), "W" != "V"`))
	wantVars(t, read(t, "p(X, Xx, XX, X1, X_) :- q(X1, XX)"), list("X Xx XX X1 X_"), list("X1 XX"))
	long := strings.Repeat("X", api.MaxName-1)
	wantVars(t, read(t, "p("+long+"A, "+long+"B)"), []string{long + "A", long + "B"}, nil)
}

// Rules may be any: texts that are no variables' count as such, where Var is true; so does the empty one.
func TestVariablesThatAreNotInForm(t *testing.T) {
	for _, text := range []string{"", "x", "not", "1", "é", "\xff", "\x00", " X", "X ", "_", "\n", strings.Repeat("X", 65), strings.Repeat("a", 1<<20)} {
		x, y := variable(text), variable(text+"'")
		wantVars(t, rule(atom("p", x, y), positive(atom("q", y, constant(text), x))), []string{text, text + "'"}, []string{text + "'", text})
		wantSafe(t, rule(atom("p", x), positive(atom("q", x))))
		wantLoose(t, rule(atom("p", x), positive(atom("q", y))), text)
		wantLoose(t, rule(atom("p", constant(text)), unlike(x, x)), text)
		wantCheck(t, rules(rule(atom("p")), rule(atom("p", x))), 1, text, api.ErrUnsafe)
		wantFaults(t, rules(rule(atom("p")), rule(atom("p"), negative(atom("q", constant(text), x)))), api.Loose{Rule: 1, Literal: 0, Name: text})
		wantReady(t, negative(atom("q", x)), []string{text}, true)
		wantReady(t, negative(atom("q", x)), []string{text + "'"}, false)
		wantReady(t, negative(atom("q", x)), nil, false)
		wantWay(t, rule(atom("p"), unlike(x, constant("a")), positive(atom("q", x))), 1, 0)
		wantNoWay(t, rule(atom("p"), unlike(x, constant("a")), positive(atom("q", y))))
	}
}

// What a kind does not name is not looked at.
func TestWhatAKindDoesNotName(t *testing.T) {
	x, y, z := variable("X"), variable("Y"), variable("Z")
	both := api.Literal{Atom: atom("q", x), Left: y, Right: z}
	is := func(kind api.LitKind) api.Literal {
		l := both
		l.Kind = kind
		return l
	}
	wantVars(t, rule(atom("p"), is(api.Positive)), list("X"), list("X"))
	wantVars(t, rule(atom("p"), is(api.Negative)), list("X"), nil)
	wantVars(t, rule(atom("p"), is(api.Unlike)), list("Y Z"), nil)
	wantSafe(t, rule(atom("p", x), is(api.Positive)))
	wantLoose(t, rule(atom("p", y), is(api.Positive)), "Y")
	wantLoose(t, rule(atom("p"), is(api.Negative)), "X")
	wantLoose(t, rule(atom("p"), is(api.Unlike)), "Y")
	wantReady(t, is(api.Negative), list("X"), true)
	wantReady(t, is(api.Negative), list("Y Z"), false)
	wantReady(t, is(api.Unlike), list("Y Z"), true)
	wantReady(t, is(api.Unlike), list("X Y"), false)
	wantReady(t, is(api.Unlike), list("X Z"), false)
	wantWay(t, rule(atom("p"), is(api.Negative), is(api.Positive)), 1, 0)
	wantNoWay(t, rule(atom("p"), is(api.Unlike), is(api.Positive)))
	wantWay(t, rule(atom("p"), is(api.Unlike), is(api.Positive), positive(atom("r", z, y))), 1, 2, 0)
}

// A literal whose kind is none of the three says nothing, wherever it stands.
func TestOtherKinds(t *testing.T) {
	x, y := variable("X"), variable("Y")
	for _, kind := range anyKinds {
		none := api.Literal{Kind: kind, Atom: atom("q", x), Left: x, Right: y}
		wantVars(t, rule(atom("p"), none), nil, nil)
		wantVars(t, rule(atom("p", y), none, positive(atom("q", x)), none), list("Y X"), list("X"))
		wantSafe(t, rule(atom("p"), none, none))
		wantLoose(t, rule(atom("p", x), none), "X")
		wantLoose(t, rule(atom("p"), none, negative(atom("q", x)), none), "X")
		wantFaults(t, rules(rule(atom("p"), none, negative(atom("q", x)), none)), api.Loose{Rule: 0, Literal: 1, Name: "X"})
		for _, bound := range [][]string{nil, list("X"), list("X Y")} {
			wantReady(t, none, bound, false)
			wantReady(t, api.Literal{Kind: kind}, bound, false)
			wantReady(t, api.Literal{Kind: kind, Atom: atom("q")}, bound, false)
		}
		wantWay(t, rule(atom("p"), none))
		wantWay(t, rule(atom("p"), none, none, none))
		wantWay(t, rule(atom("p"), none, negative(atom("r", x)), none, positive(atom("q", x)), none), 3, 1)
		wantNoWay(t, rule(atom("p"), none, negative(atom("r", x)), none))
	}
}

// P12.2

func TestTheFirstLooseVariable(t *testing.T) {
	wantSafe(t, api.Rule{})
	wantSafe(t, read(t, "p :- q"))
	wantSafe(t, read(t, "p :- not q"))
	wantSafe(t, read(t, "p :- a != a"))
	wantSafe(t, read(t, "p(a, X) :- not r(X), q(X), X != a"))
	wantSafe(t, read(t, "p(X, Y) :- q(X), r(Y), not s(Y, X), X != Y"))
	wantSafe(t, read(t, "p :- q(X)"))
	wantLoose(t, read(t, "p(A, B, C) :- q(A, C)"), "B")
	wantLoose(t, read(t, "p(A, C, B) :- q(A)"), "C")
	wantLoose(t, read(t, "p(A) :- q(A), not r(A, D), C != B"), "D")
	wantLoose(t, read(t, "p(A) :- q(A), A != D, not r(C)"), "D")
	wantLoose(t, read(t, "p(A) :- q(A), D != A, not r(C)"), "D")
	wantLoose(t, read(t, "p(Z) :- not r(A), q(A)"), "Z")
	// The head stands ahead of the body, whatever its variables' bytes are.
	wantLoose(t, read(t, "p(Z) :- not r(A)"), "Z")
	// Neither a head nor another literal that is not positive binds.
	wantLoose(t, read(t, "p(X) :- not q(X), X != X, X != a"), "X")
}

// P12.3

func TestTheFirstRuleThatIsNotSafe(t *testing.T) {
	wantCheck(t, api.Program{}, 0, "", api.OK)
	wantCheck(t, api.Program{Rules: []api.Rule{}}, 0, "", api.OK)
	wantFaults(t, api.Program{})
	wantCheck(t, rules(api.Rule{}, api.Rule{}), 0, "", api.OK)
	good, bad := read(t, "p(X) :- q(X)"), read(t, "p(Y, X) :- q(Z), not r(W, X)")
	for count := range 6 {
		wantCheck(t, rules(slices.Repeat([]api.Rule{good}, count)...), 0, "", api.OK)
		for i := range count + 1 {
			list := slices.Insert(slices.Repeat([]api.Rule{good}, count), i, bad)
			wantCheck(t, rules(list...), i, "Y", api.ErrUnsafe)
			wantFaults(t, rules(list...), api.Loose{Rule: i, Literal: -1, Name: "Y"}, api.Loose{Rule: i, Literal: -1, Name: "X"}, api.Loose{Rule: i, Literal: 1, Name: "W"})
			// Another one behind is told by Faults alone.
			list = append(list, read(t, "s(V)"))
			wantCheck(t, rules(list...), i, "Y", api.ErrUnsafe)
			if got := Faults(rules(list...)); len(got) != 4 || got[3] != (api.Loose{Rule: count + 1, Literal: -1, Name: "V"}) {
				t.Errorf("Faults of %s is %v", say(list), got)
			}
		}
	}
}

// Inputs, outputs and whether a program is in form are not asked.
func TestOtherFaultsOfAProgram(t *testing.T) {
	p := api.Program{
		Inputs:  []api.Input{{Pred: "P", Arity: -1, File: strings.Repeat("f", 1025)}},
		Outputs: []api.Output{{}, {Pred: "not", Arity: 99}},
		Rules:   []api.Rule{rule(atom("P", constant("a"))), rule(atom("P")), rule(atom("not"), positive(atom("", variable("X"))))},
	}
	wantCheck(t, p, 0, "", api.OK)
	wantFaults(t, p)
	p.Rules[2].Head.Args = []api.Term{variable("Y")}
	wantCheck(t, p, 2, "Y", api.ErrUnsafe)
	wantFaults(t, p, api.Loose{Rule: 2, Literal: -1, Name: "Y"})
}

func TestWhereALooseVariableFirstStands(t *testing.T) {
	wantFaults(t, readProgram(t, "p(X) :- not q(X, Y), X != Y, not r(Z), Z != W."),
		api.Loose{Rule: 0, Literal: -1, Name: "X"}, api.Loose{Rule: 0, Literal: 0, Name: "Y"}, api.Loose{Rule: 0, Literal: 2, Name: "Z"}, api.Loose{Rule: 0, Literal: 3, Name: "W"})
	// The same variable is another one in another rule, and told once in each.
	wantFaults(t, readProgram(t, "p(X, X). p(X) :- q(X). p(a) :- not q(X), not q(X). p(X, Y, X) :- q(Y)."),
		api.Loose{Rule: 0, Literal: -1, Name: "X"}, api.Loose{Rule: 2, Literal: 0, Name: "X"}, api.Loose{Rule: 3, Literal: -1, Name: "X"})
	// A variable that is bound further behind is not loose.
	wantFaults(t, readProgram(t, "p(X) :- X != Y, not q(Z), r(Y), r(X)."), api.Loose{Rule: 0, Literal: 1, Name: "Z"})
}

// P12.4

func TestReady(t *testing.T) {
	x, y, a := variable("X"), variable("Y"), constant("a")
	for _, bound := range [][]string{nil, {}, list("X"), list("Y"), list("Z a"), list("Y Z X X Y")} {
		hasX, hasY := slices.Contains(bound, "X"), slices.Contains(bound, "Y")
		wantReady(t, positive(atom("q")), bound, true)
		wantReady(t, positive(atom("q", x, a, y)), bound, true)
		wantReady(t, negative(atom("q")), bound, true)
		wantReady(t, negative(atom("q", a, constant("X"))), bound, true)
		wantReady(t, negative(atom("q", x)), bound, hasX)
		wantReady(t, negative(atom("q", a, y, a)), bound, hasY)
		wantReady(t, negative(atom("q", x, y, x)), bound, hasX && hasY)
		wantReady(t, unlike(a, a), bound, true)
		wantReady(t, unlike(a, constant("X")), bound, true)
		wantReady(t, unlike(x, a), bound, hasX)
		wantReady(t, unlike(a, y), bound, hasY)
		wantReady(t, unlike(x, y), bound, hasX && hasY)
		wantReady(t, unlike(x, x), bound, hasX)
		wantReady(t, api.Literal{}, bound, false)
	}
}

// Each variable of many is asked for.
func TestReadyOfManyVariables(t *testing.T) {
	var names []string
	var terms []api.Term
	for i := range 16 {
		names = append(names, "V"+strconv.Itoa(i))
		terms = append(terms, variable(names[i]))
	}
	wantReady(t, negative(atom("q", terms...)), names, true)
	slices.Reverse(names)
	wantReady(t, negative(atom("q", terms...)), names, true)
	for i := range names {
		wantReady(t, negative(atom("q", terms...)), slices.Delete(slices.Clone(names), i, i+1), false)
	}
}

// P12.5

func TestWays(t *testing.T) {
	wantWay(t, api.Rule{})
	wantWay(t, read(t, "p"))
	// The head is not asked.
	wantWay(t, read(t, "p(X)"))
	wantWay(t, read(t, "p(X) :- q(Y), not r(Y)"), 0, 1)
	wantNoWay(t, read(t, "p(X) :- not r(X)"))
	wantWay(t, read(t, "p :- a != b, not q, not r(a)"), 0, 1, 2)
	wantWay(t, read(t, "p :- q(X), r(Y), s(X, Y)"), 0, 1, 2)
	// What waits is taken as soon as it is ready, the first one first, ahead of all behind.
	wantWay(t, read(t, "p :- not a(X), not b(X), q(X), r(X), not c(X)"), 2, 0, 1, 3, 4)
	wantWay(t, read(t, "p :- not a(X, Y), not b(X), q(X), X != Z, r(Y), s(Z)"), 2, 1, 4, 0, 5, 3)
	wantWay(t, read(t, "p :- not a(Y), not b(X), q(X), r(Y)"), 2, 1, 3, 0)
	wantWay(t, read(t, "p :- not a(Y), not b(Z), not c(X), q(X, Y, Z)"), 3, 0, 1, 2)
	wantWay(t, read(t, "p :- Y != X, X != Y, not a(Y, X), q(Y), r(Y), s(X)"), 3, 4, 5, 0, 1, 2)
	// The first positive literal with a variable binds it, not a later one.
	wantWay(t, read(t, "p :- not a(X), q(X), q(X), q(X)"), 1, 0, 2, 3)
	wantWay(t, read(t, "p :- q(X), not a(X), q(X)"), 0, 1, 2)
	// One that can't be taken leaves none, wherever it stands.
	for i := range 4 {
		body := read(t, "p :- q(X), not r(X), s(X)").Body
		wantNoWay(t, rule(atom("p"), slices.Insert(body, i, negative(atom("t", variable("X"), variable("Y"))))...))
		wantNoWay(t, rule(atom("p"), slices.Insert(body, i, unlike(constant("a"), variable("Y")))...))
		wantNoWay(t, rule(atom("p", variable("Y")), slices.Insert(body, i, unlike(variable("Y"), variable("X")))...))
	}
}

// Bodies of as many literals as there may be, and more: rules may be any.
func TestLongBodies(t *testing.T) {
	for _, count := range []int{1, 15, 16, 17, 127, 128, 129, 200} {
		var tests, atoms []api.Literal
		var first, last []int
		for i := range count {
			x := variable("X" + strconv.Itoa(i))
			tests = append(tests, unlike(x, constant("a")))
			atoms = append(atoms, positive(atom("q", x)))
			first = append(first, i, count+i)
			last = append(last, count+i, i)
		}
		way, ok := Way(rule(atom("p"), slices.Concat(tests, atoms)...))
		if !slices.Equal(way, last) || !ok {
			t.Errorf("of %d tests and as many atoms: %v, %v", count, way, ok)
		}
		slices.Sort(first)
		way, ok = Way(rule(atom("p"), slices.Concat(atoms, tests)...))
		if !slices.Equal(way, first) || !ok {
			t.Errorf("of %d atoms and as many tests: %v, %v", count, way, ok)
		}
		way, ok = Way(rule(atom("p"), slices.Concat(tests, atoms[1:])...))
		if way != nil || ok {
			t.Errorf("of %d tests and one atom less: %v, %v", count, way, ok)
		}
	}
}

// How long it takes grows no faster than the rule: these would not end while anyone waits, if each literal looked through all others.
func TestHugeRules(t *testing.T) {
	const count = 150000
	var terms []api.Term
	var names []string
	var tests, atoms, turned []api.Literal
	for i := range count {
		names = append(names, "X"+strconv.Itoa(i))
		terms = append(terms, variable(names[i]))
		tests = append(tests, unlike(terms[i], constant("a")))
		atoms = append(atoms, positive(atom("q", terms[i])))
	}
	turned = slices.Clone(atoms)
	slices.Reverse(turned)
	whole := negative(atom("r", terms...))
	body := slices.Concat(tests, []api.Literal{whole}, turned)
	wanted := make([]int, 0, len(body))
	for i := range count {
		wanted = append(wanted, count+1+i, count-1-i)
	}
	wanted = append(wanted, count)
	if way, ok := Way(rule(atom("p"), body...)); !slices.Equal(way, wanted) || !ok {
		t.Errorf("of a huge body the way is %d long, %v", len(way), ok)
	}
	if !Ready(whole, names) || Ready(whole, names[1:]) || Ready(whole, names[:count-1]) {
		t.Error("Ready of a huge literal")
	}
	r := rule(atom("p", terms...), body...)
	if !slices.Equal(Vars(r), names) || len(Bound(body)) != count || Bound(body)[0] != names[count-1] {
		t.Error("Vars or Bound of a huge rule")
	}
	if name, ok := Rule(r); name != "" || !ok {
		t.Errorf("a huge rule is not safe: %q", name)
	}
	r.Body = r.Body[:len(r.Body)-1]
	if name, ok := Rule(r); name != "X0" || ok {
		t.Errorf("a huge rule without its last literal: %q, %v", name, ok)
	}
	faults := Faults(rules(rule(atom("p")), rule(atom("p", terms...), tests...)))
	if len(faults) != count || faults[count-1] != (api.Loose{Rule: 1, Literal: -1, Name: names[count-1]}) {
		t.Errorf("%d faults of a huge rule", len(faults))
	}
}
