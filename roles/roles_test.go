package roles

import (
	"math"
	"slices"
	"strconv"
	"strings"
	"testing"

	"inkling/api"
)

// The chapter's examples, row by row.
func TestExamples(t *testing.T) {
	wantRolesOf(t, "p(X) :- q(X). q(a).", api.Role{Pred: "p", Arity: 1, Derived: true, Rules: 1}, api.Role{Pred: "q", Arity: 1, Facts: 1})
	wantRolesOf(t, `input q/1 "f". output p/1. p(X) :- q(X), not r. r.`,
		api.Role{Pred: "p", Arity: 1, Derived: true, Outputs: 1, Rules: 1}, api.Role{Pred: "q", Arity: 1, Inputs: 1}, api.Role{Pred: "r", Facts: 1})

	wantCheckOf(t, "p(a). p(a, b).", at(api.PartRule, 1, "p"), api.ErrArity)
	wantCheckOf(t, "output p/0. p(X) :- q(X), q(X, X).", at(api.PartRule, 0, "p"), api.ErrArity)
	wantCheckOf(t, `input p/1 "f". p(X) :- q(X).`, at(api.PartInput, 0, "p"), api.ErrMixed)
	wantCheckOf(t, "p(X) :- q(X). p(a).", at(api.PartRule, 1, "p"), api.ErrMixed)

	wantCheck(t, api.Program{Rules: []api.Rule{rule(atom("p"), api.Literal{Kind: 4})}}, at(api.PartRule, 0, ""), api.ErrArg)
	wantCheck(t, api.Program{Inputs: []api.Input{{Pred: "p", Arity: 17}}}, at(api.PartInput, 0, ""), api.ErrArg)
	wantCheck(t, api.Program{Outputs: []api.Output{{Pred: "not"}}}, at(api.PartOutput, 0, ""), api.ErrArg)
	wantCheck(t, api.Program{Rules: []api.Rule{rule(atom("p", variable("")))}}, at(api.PartRule, 0, ""), api.ErrArg)

	wantFactsOf(t, "p(X) :- q(X).", relations(of("q", "a", "b")), api.OK)
	wantFactsOf(t, "p(X) :- q(X).", relations(of("q", "b", "a")), api.ErrFacts)
	wantFactsOf(t, "p(X) :- q(X).", relations(of("p", "a")), api.ErrFacts)
	wantFactsOf(t, "p(X) :- q(X).", relations(of("q", "a b")), api.ErrFacts)
	wantFactsOf(t, "p(X) :- q(X).", relations(of("r")), api.ErrFacts)
	wantFactsOf(t, "p(X) :- q(X).", relations(of("q", "a"), of("q", "a")), api.ErrFacts)

	program := "p(X) :- q(X, c). q(a, b). s(X)."
	wantGivenOf(t, program, relations(of("q", "b b")), of("q", "a b", "b b"), none("s", 1))
	wantConstantsOf(t, program, relations(of("q", "b b")), "a", "b", "c")
}

// P11.1

func TestNothingIsInForm(t *testing.T) {
	wantInForm(t, api.Program{}, true)
	wantInForm(t, api.Program{Inputs: []api.Input{}, Outputs: []api.Output{}, Rules: []api.Rule{}}, true)
	wantInForm(t, api.Program{Inputs: []api.Input{{}}}, false)
	wantInForm(t, api.Program{Outputs: []api.Output{{}}}, false)
	wantInForm(t, api.Program{Rules: []api.Rule{{}}}, false)
	wantRule(t, api.Rule{}, false)
}

func TestPredicates(t *testing.T) {
	for _, pred := range []string{"a", "z", "p", "pQ_1", "a_", "aA", "a0", times(64, "a"), "a" + times(63, "_"), "a" + times(63, "Z"), "a" + times(63, "9"), "inputs", "outputs", "nota", "no", "inpu", "not_", "notnot", "nOT"} {
		wantPred(t, pred, true)
	}
	for _, pred := range []string{"", "A", "Z", "X", "_", "_a", "0", "1a", "-", " ", "a ", " a", "a b", "a-b", "a.", "a\n", "\na", "a\x00", "\x00", "é", "aé", "a\xff", "ａ", times(65, "a"), times(1024, "a"), times(1<<20, "a"), "input", "output", "not", "Not", "`", "{", "a@", "a[", "a`", "a{", "a/", "a:"} {
		wantPred(t, pred, false)
	}
}

// Every byte alone, ahead of and behind a letter, as a predicate and as a variable.
func TestEveryByteInAWord(t *testing.T) {
	for b := range 256 {
		one := string([]byte{byte(b)})
		small := b >= 'a' && b <= 'z'
		great := b >= 'A' && b <= 'Z'
		within := small || great || b >= '0' && b <= '9' || b == '_'
		for word, wanted := range map[string]bool{one: small, one + "a": small, "a" + one: within, "a" + one + "a": within, times(63, "a") + one: within, times(64, "a") + one: false} {
			if got := FormedRule(rule(atom(word))); got != wanted {
				t.Errorf("%q is a predicate: %v", word, got)
			}
		}
		for word, wanted := range map[string]bool{one: great, one + "A": great, "A" + one: within, "A" + one + "a": within, times(63, "A") + one: within, times(64, "A") + one: false} {
			if got := FormedRule(rule(atom("p", variable(word)))); got != wanted {
				t.Errorf("%q is a variable: %v", word, got)
			}
		}
		if !FormedRule(rule(atom("p", constant(one)))) {
			t.Errorf("%q is no constant", one)
		}
	}
}

func TestTerms(t *testing.T) {
	for _, text := range []string{"A", "Z", "X", "Xa_1", "Not", "INPUT", "X0", "X_", times(64, "X"), "X" + times(63, "a"), "X" + times(63, "0")} {
		wantTerm(t, variable(text), true)
		wantTerm(t, constant(text), true)
	}
	for _, text := range []string{"", "x", "_", "_X", "0", "1X", " X", "X ", "X-", "X\n", "é", "É", "X\xff", times(65, "X"), "not", "input", "p", times(1024, "X")} {
		wantTerm(t, variable(text), false)
		wantTerm(t, constant(text), true)
	}
	for _, text := range []string{times(1023, "\x00"), times(1024, "\xff"), times(512, "é")} {
		wantTerm(t, constant(text), true)
	}
	for _, text := range []string{times(1025, "a"), times(1025, "\xff"), times(513, "é"), times(1<<20, "a")} {
		wantTerm(t, constant(text), false)
		wantTerm(t, variable(text), false)
	}
}

func TestNumbersOfTerms(t *testing.T) {
	for count := range 40 {
		wantAtom(t, atom("p", slices.Repeat([]api.Term{constant("a")}, count)...), count <= 16)
		wantAtom(t, atom("p", slices.Repeat([]api.Term{variable("X")}, count)...), count <= 16)
	}
	wantAtom(t, atom("p", make([]api.Term, 1<<16)...), false)
}

func TestNumbersOfLiterals(t *testing.T) {
	for _, literal := range []api.Literal{positive(atom("q")), negative(atom("q")), unlike(variable("X"), constant(""))} {
		for _, count := range []int{0, 1, 255, 256} {
			wantRule(t, rule(atom("p"), slices.Repeat([]api.Literal{literal}, count)...), true)
			wantRule(t, rule(atom("p"), append(slices.Repeat([]api.Literal{literal}, count), api.Literal{})...), false)
		}
		for _, count := range []int{257, 258, 1 << 16} {
			wantRule(t, rule(atom("p"), slices.Repeat([]api.Literal{literal}, count)...), false)
		}
	}
	body := slices.Repeat([]api.Literal{positive(atom("q"))}, 256)
	for i := range body {
		body[i].Kind = 0
		wantRule(t, rule(atom("p"), body...), false)
		body[i].Kind = api.Negative
	}
	wantRule(t, rule(atom("p"), body...), true)
}

func TestKinds(t *testing.T) {
	a, x := atom("q", variable("X")), variable("X")
	for _, kind := range []api.LitKind{math.MinInt, -1, 0, 1, 2, 3, 4, 5, 255, math.MaxInt} {
		isAtom, isUnlike := kind == 1 || kind == 2, kind == 3
		wantLiteral(t, api.Literal{Kind: kind, Atom: a}, isAtom)
		wantLiteral(t, api.Literal{Kind: kind, Left: x, Right: constant("a")}, isUnlike)
		// Two empty constants look like no terms.
		wantLiteral(t, api.Literal{Kind: kind}, isUnlike)
		wantLiteral(t, api.Literal{Kind: kind, Atom: a, Left: x, Right: x}, false)
		wantLiteral(t, api.Literal{Kind: kind, Left: x, Right: constant("")}, isUnlike)
	}
}

// What a kind does not name is zero; a list without terms is, too.
func TestWhatAKindDoesNotName(t *testing.T) {
	for _, kind := range []api.LitKind{api.Positive, api.Negative} {
		for _, x := range []api.Term{variable(""), variable("X"), constant("a"), constant(" "), constant("\x00"), constant("X")} {
			wantLiteral(t, api.Literal{Kind: kind, Atom: atom("q"), Left: x}, false)
			wantLiteral(t, api.Literal{Kind: kind, Atom: atom("q"), Right: x}, false)
			wantLiteral(t, api.Literal{Kind: kind, Atom: atom("q"), Left: x, Right: x}, false)
		}
		wantLiteral(t, api.Literal{Kind: kind, Atom: api.Atom{Pred: "q", Args: []api.Term{}}}, true)
	}
	for _, a := range []api.Atom{atom("q"), atom("X"), atom("not"), atom(" "), atom("", constant("")), atom("", variable("X")), atom("q", constant("a"))} {
		wantLiteral(t, api.Literal{Kind: api.Unlike, Atom: a, Left: variable("X"), Right: constant("a")}, false)
	}
	wantLiteral(t, api.Literal{Kind: api.Unlike, Atom: api.Atom{Args: []api.Term{}}, Left: variable("X"), Right: constant("a")}, true)
	wantLiteral(t, unlike(variable("X"), variable("X")), true)
	wantLiteral(t, unlike(constant("a"), constant("a")), true)
}

func TestAritiesAndFilesInForm(t *testing.T) {
	for _, arity := range []int{math.MinInt, -17, -1, 17, 18, 64, 1 << 32, math.MaxInt} {
		wantInForm(t, api.Program{Inputs: []api.Input{{Pred: "p", Arity: arity, File: "f"}}}, false)
		wantInForm(t, api.Program{Outputs: []api.Output{{Pred: "p", Arity: arity}}}, false)
	}
	for arity := range 17 {
		wantInForm(t, api.Program{Inputs: []api.Input{{Pred: "p", Arity: arity, File: "f"}}}, true)
		wantInForm(t, api.Program{Outputs: []api.Output{{Pred: "p", Arity: arity}}}, true)
	}
	for _, file := range []string{"", "f", "\x00", "a b", "é", "\n", times(1023, "f"), times(1024, "\xff")} {
		wantInForm(t, api.Program{Inputs: []api.Input{{Pred: "p", File: file}}}, true)
	}
	for _, file := range []string{times(1025, "f"), times(1025, "\x00"), times(1<<20, "f")} {
		wantInForm(t, api.Program{Inputs: []api.Input{{Pred: "p", File: file}}}, false)
	}
}

// P11.2

// The statements are gone through in order, whatever else is wrong with them.
func TestTheFirstThatIsNotInForm(t *testing.T) {
	input, output, fact := api.Input{Pred: "p"}, api.Output{Pred: "p"}, rule(atom("p"))
	for i := range 4 {
		p := api.Program{Inputs: slices.Repeat([]api.Input{input}, 4), Outputs: []api.Output{{}}, Rules: []api.Rule{{}}}
		p.Inputs[i].Pred, p.Inputs[3].Arity = "P", -1
		wantCheck(t, p, at(api.PartInput, i, ""), api.ErrArg)
		p = api.Program{Inputs: []api.Input{input}, Outputs: slices.Repeat([]api.Output{output}, 4), Rules: []api.Rule{{}}}
		p.Outputs[i].Pred, p.Outputs[3].Arity = "P", 17
		wantCheck(t, p, at(api.PartOutput, i, ""), api.ErrArg)
		p = api.Program{Inputs: []api.Input{input}, Outputs: []api.Output{output}, Rules: slices.Repeat([]api.Rule{fact}, 4)}
		p.Rules[i].Head.Pred, p.Rules[3].Body = "P", []api.Literal{{}}
		wantCheck(t, p, at(api.PartRule, i, ""), api.ErrArg)
	}
}

// What is not in form goes ahead of arities, and these go ahead of what is mixed, wherever they stand.
func TestWhichErrorGoesAhead(t *testing.T) {
	mixed := read(t, `input p/1 "f". p(X) :- q(X).`)
	wantCheck(t, mixed, at(api.PartInput, 0, "p"), api.ErrMixed)
	both := copyProgram(mixed)
	both.Rules = append(both.Rules, rule(atom("q")))
	wantCheck(t, both, at(api.PartRule, 1, "q"), api.ErrArity)
	all := copyProgram(both)
	all.Rules = append(all.Rules, rule(atom("q", variable("x"))))
	wantCheck(t, all, at(api.PartRule, 2, ""), api.ErrArg)
	wantCheckOf(t, "p(X) :- q(Y). p(a, b).", at(api.PartRule, 1, "p"), api.ErrArity)
	// Nor is it asked here whether rules are safe, or the program can be stratified.
	wantCheckOf(t, "p(X) :- q(Y). q(X). p(X) :- not r(X), X != Y.", api.Spot{}, api.OK)
	wantCheckOf(t, "p :- not p.", api.Spot{}, api.OK)
}

func TestArities(t *testing.T) {
	for text, spot := range map[string]api.Spot{
		`input p/0 "f". input p/1 "f".`:                at(api.PartInput, 1, "p"),
		`input p/1 "f". input q/1 "f". input q/2 "f".`: at(api.PartInput, 2, "q"),
		`output p/1. input p/0 "f".`:                   at(api.PartOutput, 0, "p"),
		`output p/1. output p/2. output p/3.`:          at(api.PartOutput, 1, "p"),
		`output p/1. output q/2. output q/1. p.`:       at(api.PartOutput, 2, "q"),
		`p(a). output p/0.`:                            at(api.PartRule, 0, "p"),
		`p(a). input p/0 "f".`:                         at(api.PartRule, 0, "p"),
		`p :- p(a).`:                                   at(api.PartRule, 0, "p"),
		`p(X) :- not p.`:                               at(api.PartRule, 0, "p"),
		`p :- q(a), q(b), r, q.`:                       at(api.PartRule, 0, "q"),
		`p :- q, r. s :- r(a), q(a), p(a).`:            at(api.PartRule, 1, "r"),
		`p :- q, r. p(a) :- r(a), q(a).`:               at(api.PartRule, 1, "p"),
		`p :- a != b, q. p :- X != Y, not q(a), p(a).`: at(api.PartRule, 1, "q"),
		`p. q. r. q. p. r(a). q(a). p(a).`:             at(api.PartRule, 5, "r"),
		`p(a, a, a, a, a, a, a, a). p. p(a).`:          at(api.PartRule, 1, "p"),
		`output q/0. p :- not q(a). q(a).`:             at(api.PartRule, 0, "q"),
		`output q/1. input q/1 "f". p :- not q(a, b).`: at(api.PartRule, 0, "q"),
	} {
		wantCheckOf(t, text, spot, api.ErrArity)
	}
}

// A third arity is held against the first one, not against the last.
func TestTheFirstArityCounts(t *testing.T) {
	wantCheckOf(t, "p(a). q :- p(a), p(b), p.", at(api.PartRule, 1, "p"), api.ErrArity)
	wantCheckOf(t, "p(a). p(a). p.", at(api.PartRule, 2, "p"), api.ErrArity)
	wantCheckOf(t, "p(a). p. p(a).", at(api.PartRule, 1, "p"), api.ErrArity)
	wantCheckOf(t, "p. p(a). p(a).", at(api.PartRule, 1, "p"), api.ErrArity)
}

// Texts of terms and of files are no predicates.
func TestTermsHaveNoArity(t *testing.T) {
	wantCheckOf(t, `input p/1 "q". p(p). p(q). q(p, p) :- p(q), p != q.`, api.Spot{}, api.OK)
}

func TestMixed(t *testing.T) {
	for text, spot := range map[string]api.Spot{
		`input p/0 "f". p :- q.`:                               at(api.PartInput, 0, "p"),
		`input q/0 "f". input p/0 "f". input p/0 "f". p :- q.`: at(api.PartInput, 1, "p"),
		`p. p :- q.`:                           at(api.PartRule, 0, "p"),
		`p :- q. p.`:                           at(api.PartRule, 1, "p"),
		`p(X) :- q. p(Y).`:                     at(api.PartRule, 1, "p"),
		`q. p :- q. r. p. q :- r.`:             at(api.PartRule, 0, "q"),
		`p. p :- q. input q/0 "f". q :- p.`:    at(api.PartInput, 0, "q"),
		`p :- p. p. p.`:                        at(api.PartRule, 1, "p"),
		`p :- a != b. p.`:                      at(api.PartRule, 1, "p"),
		`p :- not q. q :- r. r :- s. s. r. q.`: at(api.PartRule, 4, "r"),
	} {
		wantCheckOf(t, text, spot, api.ErrMixed)
	}
}

func TestNotMixed(t *testing.T) {
	for _, text := range []string{
		"", "p.", "p. p. p.", "p :- p.", "p :- q.", "p :- q. p :- not r.", "output p/0. p :- q.", "output q/0. p :- q. q.",
		`input q/0 "f". q. output q/0. p :- q.`, `input q/0 "f". input q/0 "g". q. q.`, "p :- a != b.", "output p/0. output p/0. output p/0.",
		"p :- p. q :- p, not q.", "p(a). q(X) :- p(X), X != a. r(X, Y) :- q(X), not p(Y).",
	} {
		wantCheckOf(t, text, api.Spot{}, api.OK)
	}
}

// P11.3

func TestRolesInAllParts(t *testing.T) {
	wantRolesOf(t, "")
	wantRolesOf(t, `input p/3 "f".`, api.Role{Pred: "p", Arity: 3, Inputs: 1})
	wantRolesOf(t, "output p/16.", api.Role{Pred: "p", Arity: 16, Outputs: 1})
	wantRolesOf(t, "p :- q(a).", api.Role{Pred: "p", Derived: true, Rules: 1}, api.Role{Pred: "q", Arity: 1})
	wantRolesOf(t, "p :- not q(a, b).", api.Role{Pred: "p", Derived: true, Rules: 1}, api.Role{Pred: "q", Arity: 2})
	wantRolesOf(t, "p :- b != a.", api.Role{Pred: "p", Derived: true, Rules: 1})
	wantRolesOf(t, "p(X).", api.Role{Pred: "p", Arity: 1, Facts: 1})
	wantRolesOf(t, `p. input p/0 "f". p. input p/0 "f". output p/0. p. output p/0.`, api.Role{Pred: "p", Inputs: 2, Outputs: 2, Facts: 3})
	wantRolesOf(t, "p :- q, q, p. p :- p. output p/0. q. q.", api.Role{Pred: "p", Derived: true, Outputs: 1, Rules: 2}, api.Role{Pred: "q", Facts: 2})
}

func TestRolesRise(t *testing.T) {
	wantRolesOf(t, "b. a :- p_, pA, p0, pa, p, z, aa. ab.",
		api.Role{Pred: "a", Derived: true, Rules: 1}, api.Role{Pred: "aa"}, api.Role{Pred: "ab", Facts: 1}, api.Role{Pred: "b", Facts: 1},
		api.Role{Pred: "p"}, api.Role{Pred: "p0"}, api.Role{Pred: "pA"}, api.Role{Pred: "p_"}, api.Role{Pred: "pa"}, api.Role{Pred: "z"})
}

func TestRolesOfNoProgram(t *testing.T) {
	for text, wanted := range map[string]api.Errno{"p. p(a).": api.ErrArity, "p. p :- q.": api.ErrMixed} {
		if got, e := Roles(read(t, text)); got != nil || e != wanted {
			t.Errorf("Roles(%q) is %v, %v; want %v", text, got, e, wanted)
		}
	}
	if got, e := Roles(api.Program{Outputs: []api.Output{{Pred: "p"}, {}}}); got != nil || e != api.ErrArg {
		t.Errorf("Roles of a program that is not in form is %v, %v", got, e)
	}
}

// P11.4

func TestFactsOfNoProgram(t *testing.T) {
	for _, text := range []string{"p. p(a).", "p. p :- q."} {
		wantFactsOf(t, text, nil, api.ErrProgram)
		wantFactsOf(t, text, relations(), api.ErrProgram)
		wantFactsOf(t, text, relations(of("p", "")), api.ErrProgram)
		wantFactsOf(t, text, relations(of("r", "b", "a")), api.ErrProgram)
	}
	for _, p := range []api.Program{{Inputs: []api.Input{{}}}, {Outputs: []api.Output{{}}}, {Rules: []api.Rule{{}}}} {
		if e := Facts(p, nil); e != api.ErrProgram {
			t.Errorf("Facts(%v) is %v", p, e)
		}
		wantLaws(t, p, relations(of("p", "a")))
	}
	// A program need not be good for more than roles.Check asks.
	wantFactsOf(t, "p(X) :- not p(Y), q(a).", relations(of("q", "a")), api.OK)
}

func TestFactsOfNoRelations(t *testing.T) {
	for _, text := range []string{"", "p.", "p :- q.", `input p/2 "f".`} {
		wantFactsOf(t, text, nil, api.OK)
		wantFactsOf(t, text, relations(), api.OK)
	}
	wantFactsOf(t, "", relations(none("", 0)), api.ErrFacts)
	wantFactsOf(t, "", relations(none("p", 0)), api.ErrFacts)
}

func TestFactsRiseByPredicates(t *testing.T) {
	program := "d :- a, b, c, aa, aB."
	wantFactsOf(t, program, relations(none("a", 0), none("aB", 0), none("aa", 0), none("b", 0), none("c", 0)), api.OK)
	wantFactsOf(t, program, relations(none("a", 0), none("c", 0)), api.OK)
	wantFactsOf(t, program, relations(none("b", 0), none("a", 0)), api.ErrFacts)
	wantFactsOf(t, program, relations(none("aa", 0), none("a", 0)), api.ErrFacts)
	wantFactsOf(t, program, relations(none("aa", 0), none("aB", 0)), api.ErrFacts)
	wantFactsOf(t, program, relations(none("a", 0), none("b", 0), none("b", 0)), api.ErrFacts)
	wantFactsOf(t, program, relations(none("a", 0), none("b", 0), none("a", 0)), api.ErrFacts)
	wantFactsOf(t, program, relations(none("a", 0), of("a", "")), api.ErrFacts)
}

func TestFactsOfWhichPredicates(t *testing.T) {
	program := `input i/1 "f". output o/1. h(X) :- b(X), not n(X), X != u. f(a). output h/1.`
	for _, pred := range []string{"i", "o", "b", "n", "f"} {
		wantFactsOf(t, program, relations(of(pred, "x")), api.OK)
		wantFactsOf(t, program, relations(none(pred, 1)), api.OK)
		wantFactsOf(t, program, relations(none(pred, 0)), api.ErrFacts)
		wantFactsOf(t, program, relations(none(pred, 2)), api.ErrFacts)
		wantFactsOf(t, program, relations(none(pred, -1)), api.ErrFacts)
		wantFactsOf(t, program, relations(none(pred, 17)), api.ErrFacts)
	}
	for _, pred := range []string{"h", "u", "x", "", "X", "not", "a", times(1<<16, "p")} {
		wantFactsOf(t, program, relations(of(pred, "x")), api.ErrFacts)
		wantFactsOf(t, program, relations(none(pred, 1)), api.ErrFacts)
		wantFactsOf(t, program, relations(none(pred, 0)), api.ErrFacts)
	}
}

func TestTuplesOfFacts(t *testing.T) {
	program := "p :- n, q(a), r(a, a)."
	for wanted, lists := range map[api.Errno][][]api.Relation{
		api.OK: {
			relations(of("n", "")), relations(api.Relation{Pred: "n", Tuples: [][]string{nil}}), relations(of("n", ""), of("q", "-", "a", "aa", "b"), of("r", "- -", "- a", "a -", "a a", "a b", "aa -")),
			relations(of("q", "A", "_", "a")), relations(of("q", "a", "é", "\xff")), relations(of("r", "a b", "b a")), relations(of("r", "a z", "aa a")),
		},
		api.ErrFacts: {
			relations(of("n", "", "")), relations(api.Relation{Pred: "n", Tuples: [][]string{nil, {}}}), relations(of("n", "a")),
			relations(api.Relation{Pred: "q", Arity: 1, Tuples: [][]string{nil}}), relations(api.Relation{Pred: "q", Arity: 1, Tuples: [][]string{{"a"}, {"b"}, {}}}), relations(api.Relation{Pred: "q", Arity: 1, Tuples: [][]string{{"a"}, {"b", "b"}}}),
			relations(of("q", "a", "a")), relations(of("q", "a", "-")), relations(of("q", "aa", "a")), relations(of("q", "\xff", "a")), relations(of("q", "a", "b", "b")), relations(of("q", "a", "b", "a")), relations(of("q", "a", "A")),
			relations(of("r", "a b", "a a")), relations(of("r", "a b", "a b")), relations(of("r", "b a", "a b")), relations(of("r", "a a", "a b", "a")), relations(of("r", "aa a", "a z")),
			relations(of("n", ""), of("q", "a"), of("r", "b b", "a a")), relations(of("n", ""), of("q", "b", "a"), of("r", "a a")),
		},
	} {
		for _, l := range lists {
			wantFactsOf(t, program, l, wanted)
		}
	}
}

func TestLongConstantsOfFacts(t *testing.T) {
	full, long := times(1024, "x"), times(1025, "x")
	program := "p :- q(a, a, a)."
	wantFactsOf(t, program, relations(of("q", full+" "+full+" "+full)), api.OK)
	wantFactsOf(t, program, relations(of("q", "a a a", "b a "+full, "b "+full+" a", full+" b a")), api.OK)
	for i := range 3 {
		tuple := []string{"a", "a", "a"}
		tuple[i] = long
		text := strings.Join(tuple, " ")
		wantFactsOf(t, program, relations(of("q", text)), api.ErrFacts)
		wantFactsOf(t, program, relations(of("q", "a a a", text)), api.ErrFacts)
		wantFactsOf(t, program, relations(of("q", text, "y y y")), api.ErrFacts)
	}
	wantFactsOf(t, program, relations(api.Relation{Pred: "q", Arity: 3, Tuples: [][]string{{"a", "a", times(1<<20, "\x00")}}}), api.ErrFacts)
}

// P11.5

func TestGivenPredicates(t *testing.T) {
	wantGivenOf(t, "", nil)
	wantGivenOf(t, "p :- a != b.", nil)
	wantGivenOf(t, "p :- p.", nil)
	wantGivenOf(t, `input i/1 "f". output o/2. h(X) :- b(X), not n, X != u. f(a). output h/1.`, nil, none("b", 1), of("f", "a"), none("i", 1), none("n", 0), none("o", 2))
	wantGivenOf(t, "output b/0. output aa/0. output a/0. output aB/0.", nil, none("a", 0), none("aB", 0), none("aa", 0), none("b", 0))
}

func TestGivenTuples(t *testing.T) {
	wantGivenOf(t, "p. p. q(a). q(b). q(a).", nil, of("p", ""), of("q", "a", "b"))
	wantGivenOf(t, "p.", relations(of("p", "")), of("p", ""))
	wantGivenOf(t, "output p/0.", relations(api.Relation{Pred: "p", Tuples: [][]string{nil}}), of("p", ""))
	wantGivenOf(t, "q(b). q(a).", relations(of("q", "-", "aa", "b", "c")), of("q", "-", "a", "aa", "b", "c"))
	wantGivenOf(t, `r(a, b). r("", b). r(aa, ""). r("A", "\xff").`, relations(of("r", "a a", "a b", "a c", "b a")), of("r", "- b", "A \xff", "a a", "a b", "a c", "aa -", "b a"))
	wantGivenOf(t, `input q/1 "f". r(X) :- q(X), not s(X). s(b). output s/1.`, relations(of("q", "a", "b")), of("q", "a", "b"), of("s", "b"))
	// The body's atoms are no facts, nor are the heads of rules with a body.
	wantGivenOf(t, "p(a) :- q(b), not r(c), q(d).", nil, none("q", 1), none("r", 1))
}

func TestFactsWithVariablesGiveNothing(t *testing.T) {
	wantGivenOf(t, "q(X).", nil, none("q", 1))
	wantGivenOf(t, "q(X, a). q(a, X). q(X, Y). q(a, b). q(X, X).", nil, of("q", "a b"))
	wantGivenOf(t, "q(a, b, X). q(a, b, c). q(X, b, c). r(a).", relations(of("q", "a b b")), of("q", "a b b", "a b c"), of("r", "a"))
	// A constant that looks like a variable is none.
	wantGivenOf(t, `q("X"). q(X).`, nil, of("q", "X"))
}

func TestGivenOfNoFacts(t *testing.T) {
	for text, l := range map[string][]api.Relation{"p. p(a).": nil, "p :- q. p.": relations(of("q", "")), "p :- q.": relations(of("p", "")), "q(a).": relations(of("q", "b", "a"))} {
		p := read(t, text)
		wanted := api.ErrFacts
		if _, e := Check(p); e != api.OK {
			wanted = api.ErrProgram
		}
		if got, e := Given(p, l); got != nil || e != wanted {
			t.Errorf("Given(%q, %v) is %v, %v; want %v", text, l, got, e, wanted)
		}
		if got, e := Constants(p, l); got != nil || e != wanted {
			t.Errorf("Constants(%q, %v) is %q, %v; want %v", text, l, got, e, wanted)
		}
	}
}

// P11.6

func TestConstantsInAllPlaces(t *testing.T) {
	wantConstantsOf(t, "", nil)
	wantConstantsOf(t, `input p/1 "f". output p/1. q(X) :- p(X), not r(X), X != Y.`, nil)
	wantConstantsOf(t, "p(b, X, a).", nil, "a", "b")
	wantConstantsOf(t, "p(h) :- q(a, X), not r(n), X != u, v != X, w != x.", nil, "a", "h", "n", "u", "v", "w", "x")
	wantConstantsOf(t, "p :- q.", relations(of("q", "")))
	wantConstantsOf(t, "p :- q(X, Y), r(X).", relations(of("q", "b a", "c b"), of("r", "d")), "a", "b", "c", "d")
	wantConstantsOf(t, `p(a, "", "a", 0, 00, "X", "\xff", "A", aa, "\xc3\xa9").`, nil, "", "0", "00", "A", "X", "a", "aa", "é", "\xff")
	wantConstantsOf(t, "p(a) :- q(a), not q(a), a != a.", relations(of("q", "a")), "a")
}

// What an atom's literal does not name is no empty constant; that of an unlike literal is one.
func TestTheEmptyConstant(t *testing.T) {
	wantConstantsOf(t, "p :- q(a), not r.", nil, "a")
	wantConstantsOf(t, `p :- q(a), X != "".`, nil, "", "a")
	wantConstantsOf(t, `p :- "" != a.`, nil, "", "a")
	wantConstantsOf(t, `p :- "" != "".`, nil, "")
	wantConstantsOf(t, `p :- q(X), not r("").`, nil, "")
	wantConstantsOf(t, "p :- q(X).", relations(of("q", "-")), "")
}

// P11.7, and programs of many statements.

func TestManyStatements(t *testing.T) {
	const count = 30000
	var p api.Program
	var tuples [][]string
	for i := range count {
		text := strconv.Itoa(100000 + i)
		p.Inputs = append(p.Inputs, api.Input{Pred: "i" + text, Arity: i % 17, File: text})
		p.Outputs = append(p.Outputs, api.Output{Pred: "d" + text, Arity: 1})
		p.Rules = append(p.Rules, rule(atom("f", constant(text))), rule(atom("d"+text, variable("X")), positive(atom("f", variable("X"))), negative(atom("n"+text))))
		if i%2 == 1 {
			tuples = append(tuples, []string{text})
		}
	}
	facts := relations(api.Relation{Pred: "f", Arity: 1, Tuples: tuples})
	all, e := Roles(p)
	if len(all) != 3*count+1 || e != api.OK || all[count].Pred != "f" || all[count].Facts != count {
		t.Fatalf("Roles of many is %d, %v", len(all), e)
	}
	given, e := Given(p, facts)
	if len(given) != 2*count+1 || e != api.OK || given[0].Pred != "f" || len(given[0].Tuples) != count {
		t.Errorf("Given of many is %d, %v", len(given), e)
	}
	constants, e := Constants(p, facts)
	if len(constants) != count || e != api.OK || !slices.IsSorted(constants) {
		t.Errorf("Constants of many is %d, %v", len(constants), e)
	}
	p.Rules = append(p.Rules, rule(atom("d100777", variable("X"))))
	if spot, e := Check(p); spot != at(api.PartRule, 2*count, "d100777") || e != api.ErrMixed {
		t.Errorf("Check of many is %v, %v", spot, e)
	}
	p.Rules = append(p.Rules, rule(atom("f")))
	if spot, e := Check(p); spot != at(api.PartRule, 2*count+1, "f") || e != api.ErrArity {
		t.Errorf("Check of many is %v, %v", spot, e)
	}
}

func TestGivenIsGivenAgain(t *testing.T) {
	for _, text := range []string{"", "p.", "q(b). q(a). q(X).", `input q/1 "f". q(c). p(X) :- q(X), r(X, X). s.`} {
		p := read(t, text)
		given, _ := Given(p, nil)
		if e := Facts(p, given); e != api.OK {
			t.Errorf("Facts of what is given of %q is %v", text, e)
		}
		wantLaws(t, p, given)
	}
}
