package plan

import (
	"fmt"
	"math"
	"reflect"
	"slices"
	"strconv"
	"strings"
	"testing"

	"inkling/api"
)

const example = "h(X) :- e(X, Y), p(Y), Y != 3"

func exampleSizes() []api.Size { return sizes(size("e", 100, 10, 50), size("p", 8, 8)) }

func TestExamples(t *testing.T) {
	r, s := read(t, example), exampleSizes()
	got := Sizes([]api.Relation{relation("e", 2, "1 a", "1 b", "2 a"), relation("z", 0)})
	if wanted := sizes(size("e", 3, 2, 2), size("z", 0)); !reflect.DeepEqual(got, wanted) {
		t.Errorf("Sizes is %v; want %v", got, wanted)
	}
	wantMake(t, r, s, -1, "1 new Y, 2, 0 bound 1 new X")
	p, _ := Make(r, s, -1)
	eight := 8.0
	test := eight * 9 / 10
	wantRows(t, p, s, 8, 7.2, test*100/50)
	if cost, e := Cost(p, s); cost != eight+test+test*100/50 || e != api.OK {
		t.Errorf("Cost is %v, %v", cost, e)
	}
	wantMake(t, r, s, 0, "0 new X Y, 2, 1 bound 0")
	wantMake(t, read(t, "h :- not p(1), e(a, b)"), nil, -1, "0 bound 0, 1 bound 0 1")
	wantNoMake(t, read(t, "h(X) :- p(Y)"), s, -1, api.ErrUnsafe)
	wantNoMake(t, read(t, "h(X) :- p(Y)"), s, 1, api.ErrArg)
	wantNoMake(t, read(t, "h(X) :- p(Y)"), sizes(size("p", -1)), -1, api.ErrArg)
	wantRows(t, p, nil, 0, 0, 0)
	wantLeast(t, r, s, "1 new Y, 2, 0 bound 1 new X", eight+test+test*100/50)
	wantRight(t, planOf(r, "2, 1 new Y, 0 bound 1 new X"), false)
	wantRight(t, planOf(r, "1, 2, 0 bound 1 new X"), false)
	wantRight(t, planOf(r, "1 new Y, 2, 0 bound 1"), false)
}

func TestTheNumbersOfApi(t *testing.T) {
	if api.ErrPlan != 260 || api.MaxLeast != 6 {
		t.Errorf("ErrPlan is %d, MaxLeast %d", api.ErrPlan, api.MaxLeast)
	}
}

// relation has tuples whose texts stand between blanks.
func relation(pred string, arity int, tuples ...string) api.Relation {
	r := api.Relation{Pred: pred, Arity: arity}
	for _, tuple := range tuples {
		r.Tuples = append(r.Tuples, list(tuple))
	}
	return r
}

// P16.1

func wantSizes(t testing.TB, l []api.Relation, wanted ...api.Size) {
	t.Helper()
	got := Sizes(l)
	if len(got) != len(wanted) || !reflect.DeepEqual(plainSizes(l), wanted) {
		t.Errorf("Sizes(%s) is %s; want %s", say(l), say(got), say(wanted))
		return
	}
	for i, size := range got {
		if size.Pred != wanted[i].Pred || size.Rows != wanted[i].Rows || !slices.Equal(size.Distinct, wanted[i].Distinct) {
			t.Errorf("Sizes(%s) is %s; want %s", say(l), say(got), say(wanted))
		}
	}
}

func TestSizes(t *testing.T) {
	wantSizes(t, nil)
	wantSizes(t, []api.Relation{relation("p", 1, "a", "b", "c")}, size("p", 3, 3))
	wantSizes(t, []api.Relation{relation("p", 3, "a a a", "a b c", "a b d", "b b a")}, size("p", 4, 2, 2, 3))
	// In their order, which is not told by the names; of one name there may be several.
	wantSizes(t, []api.Relation{relation("q", 1, "a"), relation("p", 1), relation("q", 1, "a", "b")}, size("q", 1, 1), size("p", 0), size("q", 2, 2))
	// A text in one column is none in another.
	wantSizes(t, []api.Relation{relation("p", 2, "a b", "b a", "b b")}, size("p", 3, 2, 2))
	wide := relation("p", 16, strings.Repeat("a ", 16), "a b c d e f g h i j k l m n o p", strings.Repeat("p ", 16))
	wantSizes(t, []api.Relation{wide}, size("p", 3, 2, 3, 3, 3, 3, 3, 3, 3, 3, 3, 3, 3, 3, 3, 3, 2))
}

// Of a predicate without terms there are no columns, and a tuple or none.
func TestSizesWithoutColumns(t *testing.T) {
	wantSizes(t, []api.Relation{{Pred: "p"}, {Pred: "q", Tuples: [][]string{}}, {Pred: "r", Tuples: [][]string{{}}}, {Pred: "s", Tuples: [][]string{nil}}},
		size("p", 0), size("q", 0), size("r", 1), size("s", 1))
	wantSizes(t, []api.Relation{{Pred: "p", Arity: 3}}, size("p", 0))
}

// Relations may be any: tuples in any order, several times, longer and shorter than the first one, with any texts.
func TestSizesOfAnyRelations(t *testing.T) {
	wantSizes(t, []api.Relation{relation("p", 1, "b", "a", "b", "b")}, size("p", 4, 2))
	wantSizes(t, []api.Relation{relation("p", 2, "a b", "c", "d e f", "", "a a")}, size("p", 5, 3, 3))
	wantSizes(t, []api.Relation{relation("p", 2, "", "a", "b c")}, size("p", 3))
	wantSizes(t, []api.Relation{relation("p", 1, "a b c", "", "a b", "b")}, size("p", 4, 2, 1, 1))
	wantSizes(t, []api.Relation{relation("", -1, "a"), relation("No name", 99, "a")}, size("", 1, 1), size("No name", 1, 1))
	long := strings.Repeat("a", 5000)
	wantSizes(t, []api.Relation{{Pred: "p", Tuples: [][]string{{""}, {"\x00"}, {"a"}, {"a\x00"}, {"A"}, {"\xff"}, {""}, {long}, {long + "a"}}}}, size("p", 9, 8))
	wantSizes(t, []api.Relation{{Pred: "p", Tuples: [][]string{{"a", "b\tc"}, {"a\tb", "c"}, {"1", "01"}, {"1", "1"}}}}, size("p", 4, 3, 4))
}

// How long it takes grows no faster than what stands there: nothing is gone through once a column, or once a tuple.
func TestSizesOfHugeRelations(t *testing.T) {
	const count = 100000
	many := api.Relation{Pred: "p"}
	wide := api.Relation{Pred: "q", Tuples: [][]string{nil}}
	for i := range count {
		text := strconv.Itoa(i)
		many.Tuples = append(many.Tuples, []string{text, text[:1]})
		wide.Tuples[0] = append(wide.Tuples[0], text)
		wide.Tuples = append(wide.Tuples, []string{text})
	}
	got := Sizes([]api.Relation{many, wide})
	if len(got) != 2 || !slices.Equal(got[0].Distinct, []int{count, 10}) || got[1].Rows != count+1 || len(got[1].Distinct) != count || got[1].Distinct[0] != count || got[1].Distinct[count-1] != 1 {
		t.Errorf("Sizes of huge relations is %s", say(got))
	}
}

// P16.2

// unformed are rules that are not in form, each by one thing, among them some that are safe and some that are not.
func unformed(t testing.TB) []api.Rule {
	x := variable("X")
	var all []api.Rule
	for _, kind := range []api.LitKind{math.MinInt, -1, 0, 4, 255, 1 << 32, 1<<32 + 1, math.MaxInt} {
		all = append(all, rule(atom("h"), api.Literal{Kind: kind, Atom: atom("p")}), rule(atom("h"), positive(atom("p", x)), api.Literal{Kind: kind}))
	}
	for _, pred := range []string{"", "not", "input", "output", "P", "1", "_", "a b", "é", strings.Repeat("p", 65)} {
		all = append(all, rule(atom(pred)), rule(atom("h"), positive(atom(pred))), rule(atom("h"), negative(atom(pred))))
	}
	for _, name := range []string{"", "x", "1", "_X", "X Y", strings.Repeat("X", 65)} {
		bad := variable(name)
		all = append(all, rule(atom("h", bad), positive(atom("p", bad))), rule(atom("h"), positive(atom("p", bad))), rule(atom("h"), positive(atom("p", x)), unlike(x, bad)), rule(atom("h"), unlike(bad, x)))
	}
	long := constant(strings.Repeat("a", api.MaxText+1))
	all = append(all, rule(atom("h", long)), rule(atom("h"), positive(atom("p", long))), rule(atom("h"), unlike(long, x)), rule(atom("h"), unlike(constant(""), long)))
	many := slices.Repeat([]api.Term{x}, api.MaxArity+1)
	all = append(all, rule(atom("h", many...), positive(atom("p", x))), rule(atom("h"), positive(atom("p", many...))), rule(atom("h"), negative(atom("p", many...))))
	all = append(all, rule(atom("h"), slices.Repeat([]api.Literal{positive(atom("p"))}, api.MaxBody+1)...))
	for _, kind := range []api.LitKind{api.Positive, api.Negative} {
		all = append(all, rule(atom("h"), api.Literal{Kind: kind, Atom: atom("p"), Left: constant("a")}), rule(atom("h"), api.Literal{Kind: kind, Atom: atom("p"), Right: x}))
	}
	test := unlike(constant("a"), constant("b"))
	test.Atom.Pred = "p"
	other := unlike(constant("a"), constant("b"))
	other.Atom.Args = []api.Term{constant("a")}
	return append(all, rule(atom("h"), test), rule(atom("h"), other), api.Rule{})
}

func TestRulesThatAreNotInForm(t *testing.T) {
	for _, r := range unformed(t) {
		for _, l := range [][]api.Size{nil, exampleSizes(), sizes(size("p", -1))} {
			wantNoMake(t, r, l, -1, api.ErrArg)
			wantNoMake(t, r, l, 0, api.ErrArg)
			wantNoLeast(t, r, l, api.ErrArg)
			wantNoRows(t, api.Plan{Rule: r}, l, api.ErrPlan)
		}
		wantRight(t, api.Plan{Rule: r}, false)
		wantRight(t, planOf(r, "0"), false)
		if len(r.Body) < 4 {
			wantLaws(t, r, exampleSizes())
		}
	}
}

// noSizes are sizes that may not be used, each by one number; it may be one that no literal asks for.
func noSizes() [][]api.Size {
	var all [][]api.Size
	for _, number := range []int{-1, math.MinInt32, math.MinInt, 2147483648, 1 << 40, math.MaxInt} {
		all = append(all,
			sizes(size("e", number)),
			sizes(size("e", 1, number)),
			sizes(size("e", 1, 1, number, 1)),
			sizes(size("e", 1, 1, 2, 3, 4, 5, number)),
			sizes(size("e", 1), size("e", number)),
			sizes(size("e", 1), size("other", 1, number)),
			sizes(size("", number), size("e", 1)),
			sizes(size("Not a name", 1), size("not", 0, number)))
	}
	return all
}

func TestSizesThatMayNotBeUsed(t *testing.T) {
	good, loose := read(t, example), read(t, "h(X) :- e(Y)")
	p, _ := Make(good, nil, -1)
	for _, l := range noSizes() {
		wantNoMake(t, good, l, -1, api.ErrArg)
		wantNoMake(t, good, l, 0, api.ErrArg)
		wantNoLeast(t, good, l, api.ErrArg)
		wantNoRows(t, p, l, api.ErrArg)
		wantNoRows(t, api.Plan{Rule: good}, l, api.ErrPlan)
		// These numbers go ahead of what a rule says.
		wantNoMake(t, loose, l, -1, api.ErrArg)
		wantNoLeast(t, loose, l, api.ErrArg)
		wantNoMake(t, read(t, "h"), l, -1, api.ErrArg)
		wantNoLeast(t, read(t, "h"), l, api.ErrArg)
		wantNoRows(t, planOf(read(t, "h"), ""), l, api.ErrArg)
	}
}

func TestSizesAtTheirBounds(t *testing.T) {
	r := read(t, "h(X) :- e(X, a), p(X)")
	const most = math.MaxInt32
	wantMake(t, r, sizes(size("e", most, most, most), size("p", 0, 0)), -1, "1 new X, 0 bound 0 1")
	wantMake(t, r, sizes(size("e", most, 1, most), size("p", 2)), -1, "0 bound 1 new X, 1 bound 0")
	wantRows(t, planOf(r, "0 bound 1 new X, 1 bound 0"), sizes(size("e", most, 1, most), size("p", most)), 1, most)
	// Names may be any texts.
	wantMake(t, r, sizes(size("", 0), size("X", 1), size("not", 2), size("\xff", 3), size(strings.Repeat("e", 5000), 4), size("e", 5), size("p", 4)), -1, "1 new X, 0 bound 0 1")
}

func TestWhichLiteralMayBeFirst(t *testing.T) {
	r := read(t, "h(X) :- not q(X), p(X), X != a, r(X), not q(a)")
	for _, first := range []int{math.MinInt, -5, -2, 0, 2, 4, 5, 6, 255, 1 << 32, 1<<32 + 1, math.MaxInt} {
		wantNoMake(t, r, nil, first, api.ErrArg)
		// Which number is wrong goes ahead of what is unsafe.
		wantNoMake(t, read(t, "h(Y) :- not q(X), p(X), X != a, r(X), not q(a)"), nil, first, api.ErrArg)
	}
	wantMake(t, r, nil, 1, "1 new X, 0 bound 0, 2, 4 bound 0, 3 bound 0")
	wantMake(t, r, nil, 3, "3 new X, 0 bound 0, 2, 4 bound 0, 1 bound 0")
	wantMake(t, r, nil, -1, "4 bound 0, 1 new X, 0 bound 0, 2, 3 bound 0")
	wantNoMake(t, read(t, "h(Y) :- not q(X), p(X), X != a, r(X), not q(a)"), nil, 1, api.ErrUnsafe)
	wantNoMake(t, read(t, "h"), nil, 0, api.ErrArg)
	wantNoMake(t, read(t, "h(X)"), nil, 0, api.ErrArg)
	wantMake(t, read(t, "h"), nil, -1, "")
	wantMake(t, read(t, "h(a, b)"), nil, -1, "")
}

func TestRulesThatAreNotSafe(t *testing.T) {
	for _, text := range []string{"h(X)", "h(X) :- p(Y)", "h :- not p(X)", "h :- X != a", "h :- a != X", "h :- X != X", "h(X) :- not p(X), X != Y", "h :- p(X), not q(X, Y)", "h :- p(X), X != Y"} {
		r := read(t, text)
		wantNoMake(t, r, exampleSizes(), -1, api.ErrUnsafe)
		wantNoLeast(t, r, exampleSizes(), api.ErrUnsafe)
		wantLaws(t, r, exampleSizes())
	}
}

// A test is taken as soon as it is ready, the first one first, ahead of all atoms but the one that must be first.
func TestTestsComeFirst(t *testing.T) {
	none := sizes(size("p", 0), size("q", 1), size("r", 1))
	wantMake(t, read(t, "h :- p, not q, a != b, not r(a), X != Y, s(X, Y)"), none, -1, "1, 2, 3 bound 0, 0, 5 new X Y, 4")
	wantMake(t, read(t, "h :- p, not q, a != b"), none, 0, "0, 1, 2")
	wantMake(t, read(t, "h :- not a(Y), not b(X), q(X), X != X, r(Y), Y != X"), none, 2, "2 new X, 1 bound 0, 3, 4 new Y, 0 bound 0, 5")
	wantMake(t, read(t, "h :- not a(Y), not b(X), q(X), X != X, r(Y), Y != X"), none, 4, "4 new Y, 0 bound 0, 2 new X, 1 bound 0, 3, 5")
	// Where all variables are known a test goes ahead of what has no rows.
	wantMake(t, read(t, "h :- q(X), p, X != a, not p"), none, 0, "0 new X, 2, 3, 1")
}

// Else the atom is taken that has the fewest rows behind it, of several the first one.
func TestTheFewestRows(t *testing.T) {
	r := read(t, "h :- a(X), b(Y), c(Z)")
	for order := range orders(3) {
		l := sizes(size("a", 7), size("b", 7), size("c", 7))
		for turn, i := range order {
			l[i].Rows = 3 + turn
		}
		var text string
		for _, i := range order {
			text += strconv.Itoa(i) + " new " + string(rune('X'+i)) + ","
		}
		wantMake(t, r, l, -1, text)
	}
	wantMake(t, r, nil, -1, "0 new X, 1 new Y, 2 new Z")
	wantMake(t, r, nil, 1, "1 new Y, 0 new X, 2 new Z")
	wantMake(t, r, sizes(size("a", 5), size("b", 5), size("c", 5)), -1, "0 new X, 1 new Y, 2 new Z")
	wantMake(t, r, sizes(size("a", 5), size("b", 4), size("c", 4)), -1, "1 new Y, 2 new Z, 0 new X")
	// Without a size there are no rows, and behind none there are none.
	wantMake(t, r, sizes(size("a", 1), size("b", 1)), -1, "2 new Z, 0 new X, 1 new Y")
	wantMake(t, read(t, "h :- a(X), b(Y), c(Z), a(W)"), sizes(size("a", 1), size("b", 1)), 3, "3 new W, 2 new Z, 0 new X, 1 new Y")
	// Rows above the bound are as one another.
	l := sizes(size("a", math.MaxInt32), size("b", math.MaxInt32-1), size("c", 1000))
	long := rule(atom("h"), slices.Concat(slices.Repeat([]api.Literal{positive(atom("c"))}, 100), []api.Literal{positive(atom("a")), positive(atom("b"))})...)
	if p, e := Make(long, l, -1); e != api.OK || p.Steps[100].Literal != 100 || p.Steps[101].Literal != 101 {
		t.Errorf("Make of 100 literals of 1000 rows, and more, is %s, %v", say(p), e)
	}
	long.Body = long.Body[8:]
	if p, e := Make(long, l, -1); e != api.OK || p.Steps[92].Literal != 93 || p.Steps[93].Literal != 92 {
		t.Errorf("Make of 92 literals of 1000 rows, and more, is %s, %v", say(p), e)
	}
}

// A column that is known, by a constant or by a variable, divides the rows by its worth.
func TestKnownColumns(t *testing.T) {
	l := sizes(size("e", 100, 10, 50), size("f", 20, 4), size("g", 5, 0), size("e", 1), size("k", 30, 2, 3, 5))
	wantMake(t, read(t, "h :- f(X), e(Y, Z)"), l, -1, "0 new X, 1 new Y Z")
	wantMake(t, read(t, "h :- f(X), e(Y, a)"), l, -1, "1 bound 1 new Y, 0 new X")
	wantMake(t, read(t, "h :- f(X), e(a, Y)"), l, -1, "1 bound 0 new Y, 0 new X")
	// f with a constant has 5 rows, e with one in its first column 10, with two 0.2.
	wantMake(t, read(t, "h :- f(a), e(a, Y)"), l, -1, "0 bound 0, 1 bound 0 new Y")
	wantMake(t, read(t, "h :- f(a), e(a, b)"), l, -1, "1 bound 0 1, 0 bound 0")
	// A worth of 0, and none, are 1.
	wantMake(t, read(t, "h :- g(a), f(b)"), l, -1, "0 bound 0, 1 bound 0")
	wantMake(t, read(t, "h :- f(b), g(a)"), l, -1, "0 bound 0, 1 bound 0")
	wantMake(t, read(t, "h :- f(X, a, b), g(Y, a, b)"), l, -1, "1 bound 1 2 new Y, 0 bound 1 2 new X")
	wantRows(t, planOf(read(t, "h :- g(a, b)"), "0 bound 0 1"), l, 5)
	wantRows(t, planOf(read(t, "h :- f(a, b)"), "0 bound 0 1"), l, 5)
	wantRows(t, planOf(read(t, "h :- f(X, b)"), "0 bound 1 new X"), l, 20)
	// A variable that stands in a literal twice is not known ahead of it; the column is no column of another predicate.
	wantMake(t, read(t, "h :- k(X, X, a), k(Y, X, Y), e(X, Y)"), l, -1, "0 bound 2 new X, 1 bound 1 new Y, 2 bound 0 1")
	wantMake(t, read(t, "h :- k(X, Y, X), e(Y, X)"), l, 0, "0 new X Y, 1 bound 0 1")
	wantMake(t, read(t, "h(X) :- k(Z, Y, X), f(Y)"), l, 1, "1 new Y, 0 bound 1 new Z X")
}

// A constant is no variable, whatever its text is; what is known of one variable is not known of another.
func TestWhatIsKnown(t *testing.T) {
	l := sizes(size("e", 9, 3, 3), size("f", 9, 3))
	wantMake(t, read(t, `h(X) :- f(X), e("X", Y), Y != "X", not f("Y")`), l, -1, `3 bound 0, 1 bound 0 new Y, 2, 0 new X`)
	wantMake(t, read(t, "h :- f(X), e(X1, X_), not e(X, X1), XX != X_, f(XX)"), l, -1, "0 new X, 1 new X1 X_, 2 bound 0 1, 4 new XX, 3")
	long := strings.Repeat("X", api.MaxName-1)
	wantMake(t, read(t, fmt.Sprintf("h :- f(%sA), e(%sB, %sA)", long, long, long)), l, -1, fmt.Sprintf("0 new %sA, 1 bound 1 new %sB", long, long))
	// The head makes nothing known.
	wantMake(t, read(t, "h(X, Y) :- f(Y), e(Y, X)"), l, -1, "0 new Y, 1 bound 0 new X")
}

// P16.3

func TestRight(t *testing.T) {
	wantRight(t, api.Plan{}, false)
	wantRight(t, planOf(read(t, "h"), ""), true)
	wantRight(t, api.Plan{Rule: read(t, "h(a)"), Steps: []api.Step{}}, true)
	wantRight(t, planOf(read(t, "h"), "0"), false)
	wantRight(t, planOf(read(t, "h"), "-1"), false)
	r := read(t, "h(X) :- p(X, a, Y, X), not q(Y, b), X != Y, r(Y, Z, X, W)")
	wantRight(t, planOf(r, "0 bound 1 new X Y, 1 bound 0 1, 2, 3 bound 0 2 new Z W"), true)
	wantRight(t, planOf(r, "3 new Y Z X W, 0 bound 0 1 2 3, 2, 1 bound 0 1"), true)
	wantRight(t, planOf(r, "0 bound 1 new X Y, 3 bound 0 2 new Z W, 2, 1 bound 0 1"), true)
	// Whether a better one should have been chosen is not asked, and lists without things are as none.
	wantRight(t, api.Plan{Rule: read(t, "h :- p(X), q, not q, a != b"), Steps: []api.Step{
		{Literal: 0, Bound: []int{}, New: []string{"X"}}, {Literal: 1, Bound: []int{}, New: []string{}}, {Literal: 2, Bound: []int{}, New: []string{}}, {Literal: 3, Bound: []int{}, New: []string{}}}}, true)
}

// Whether the rule is safe is not asked; a test of which a variable is never known is never ready.
func TestRightOfRulesThatAreNotSafe(t *testing.T) {
	wantRight(t, planOf(read(t, "h(X)"), ""), true)
	wantRight(t, planOf(read(t, "h(X) :- p(Y)"), "0 new Y"), true)
	wantRows(t, planOf(read(t, "h(X) :- p(Y)"), "0 new Y"), exampleSizes(), 8)
	wantRight(t, planOf(read(t, "h :- not p(X)"), "0 bound 0"), false)
	wantRight(t, planOf(read(t, "h :- not p(X)"), "0 new X"), false)
	wantRight(t, planOf(read(t, "h :- X != a"), "0"), false)
	wantRight(t, planOf(read(t, "h :- p(X), X != Y"), "0 new X, 1"), false)
}

// Plans that are one thing away from a right one.
func TestPlansThatAreNotRight(t *testing.T) {
	r := read(t, "h(X) :- p(X, a, Y, X), not q(Y, b), X != Y, r(Y, Z, X, W)")
	for _, text := range []string{
		// Of some literal there is no step, or more than one.
		"",
		"0 bound 1 new X Y, 1 bound 0 1, 2",
		"0 bound 1 new X Y, 1 bound 0 1, 3 bound 0 2 new Z W",
		"0 bound 1 new X Y, 1 bound 0 1, 2, 2",
		"0 bound 1 new X Y, 1 bound 0 1, 2, 0 bound 0 1 2 3",
		"0 bound 1 new X Y, 1 bound 0 1, 2, 2, 3 bound 0 2 new Z W",
		"0 bound 1 new X Y, 1 bound 0 1, 2, 3 bound 0 2 new Z W, 3 bound 0 1 2 3",
		// A step is of no literal.
		"0 bound 1 new X Y, 1 bound 0 1, 2, 3 bound 0 2 new Z W, 4",
		"0 bound 1 new X Y, 1 bound 0 1, 2, 4 bound 0 2 new Z W",
		"0 bound 1 new X Y, 1 bound 0 1, 2, -1 bound 0 2 new Z W",
		"-1, 0 bound 1 new X Y, 1 bound 0 1, 2, 3 bound 0 2 new Z W",
		// A test is not ready.
		"1 bound 0 1, 0 bound 1 new X Y, 2, 3 bound 0 2 new Z W",
		"1 bound 1, 0 bound 1 new X Y, 2, 3 bound 0 2 new Z W",
		"2, 0 bound 1 new X Y, 1 bound 0 1, 3 bound 0 2 new Z W",
		// Bound is another one.
		"0 new X Y, 1 bound 0 1, 2, 3 bound 0 2 new Z W",
		"0 bound 1 3 new X Y, 1 bound 0 1, 2, 3 bound 0 2 new Z W",
		"0 bound 1 1 new X Y, 1 bound 0 1, 2, 3 bound 0 2 new Z W",
		"0 bound 1 new X Y, 1 bound 0, 2, 3 bound 0 2 new Z W",
		"0 bound 1 new X Y, 1 bound 1, 2, 3 bound 0 2 new Z W",
		"0 bound 1 new X Y, 1, 2, 3 bound 0 2 new Z W",
		"0 bound 1 new X Y, 1 bound 0 1 2, 2, 3 bound 0 2 new Z W",
		"0 bound 1 new X Y, 1 bound 0 1, 2 bound 0 1, 3 bound 0 2 new Z W",
		"0 bound 1 new X Y, 1 bound 0 1, 2 bound 0, 3 bound 0 2 new Z W",
		"0 bound 1 new X Y, 1 bound 0 1, 2, 3 bound 2 0 new Z W",
		"0 bound 1 new X Y, 1 bound 1 0, 2, 3 bound 0 2 new Z W",
		"0 bound 1 new X Y, 1 bound 0 1, 2, 3 bound 0 3 new Z W",
		"0 bound 1 new X Y, 1 bound 0 1, 2, 3 bound -1 2 new Z W",
		// New is another one.
		"0 bound 1 new X, 1 bound 0 1, 2, 3 bound 0 2 new Z W",
		"0 bound 1 new Y X, 1 bound 0 1, 2, 3 bound 0 2 new Z W",
		"0 bound 1 new X Y X, 1 bound 0 1, 2, 3 bound 0 2 new Z W",
		"0 bound 1 new X Y, 1 bound 0 1 new Y, 2, 3 bound 0 2 new Z W",
		"0 bound 1 new X Y, 1 bound 0 1, 2 new X, 3 bound 0 2 new Z W",
		"0 bound 1 new X Y, 1 bound 0 1, 2, 3 bound 0 2 new Y Z X W",
		"0 bound 1 new X Y, 1 bound 0 1, 2, 3 bound 0 2 new W Z",
		"0 bound 1 new X Y, 1 bound 0 1, 2, 3 bound 0 2",
		"0 bound 1 new X V, 1 bound 0 1, 2, 3 bound 0 2 new Z W",
		"0 bound 1 new X a Y, 1 bound 0 1, 2, 3 bound 0 2 new Z W",
	} {
		p := planOf(r, text)
		wantRight(t, p, false)
		wantNoRows(t, p, exampleSizes(), api.ErrPlan)
		wantNoRows(t, p, sizes(size("p", -1)), api.ErrPlan)
	}
}

// Numbers of literals and columns that are far off, and lists that are far too long.
func TestPlansWithHugeThings(t *testing.T) {
	r := read(t, "h :- p(X), q")
	for _, number := range []int{math.MinInt, -2, 2, 1 << 32, 1<<32 + 1, math.MaxInt} {
		wantRight(t, api.Plan{Rule: r, Steps: []api.Step{{Literal: number}, {Literal: 1}}}, false)
		wantRight(t, api.Plan{Rule: r, Steps: []api.Step{{Literal: 0, New: list("X")}, {Literal: number}}}, false)
		wantRight(t, api.Plan{Rule: r, Steps: []api.Step{{Literal: 0, New: list("X"), Bound: []int{number}}, {Literal: 1}}}, false)
	}
	const count = 1 << 20
	for _, p := range []api.Plan{
		{Rule: r, Steps: make([]api.Step, count)},
		{Rule: r, Steps: []api.Step{{Literal: 0, New: slices.Repeat(list("X"), count)}, {Literal: 1}}},
		{Rule: r, Steps: []api.Step{{Literal: 0, New: list("X")}, {Literal: 1, Bound: numbersUpTo(count)}}},
		{Rule: r, Steps: []api.Step{{Literal: 0, New: []string{strings.Repeat("X", count)}}, {Literal: 1}}},
		{Rule: rule(atom("h"), make([]api.Literal, count)...), Steps: make([]api.Step, count)},
	} {
		if Right(p) {
			t.Errorf("it is right: %s", say(p.Rule))
		}
	}
}

// P16.4

func TestRowsOfEachKind(t *testing.T) {
	l := sizes(size("p", 13, 7), size("q", 1, 5, 7))
	one, thirteen := 1.0, 13.0
	wantRows(t, planOf(read(t, "h"), ""), l)
	wantRows(t, planOf(read(t, "h :- p(X)"), "0 new X"), l, 13)
	wantRows(t, planOf(read(t, "h :- not p(a)"), "0 bound 0"), l, 0.5)
	wantRows(t, planOf(read(t, "h :- a != b"), "0"), l, 0.9)
	wantRows(t, planOf(read(t, "h :- a != b, not p(a), not q, p(X)"), "0, 1 bound 0, 2, 3 new X"), l, 0.9, 0.45, 0.225, 0.225*thirteen)
	// 13 times 9, divided by 10, is not 13 times nine tenths; the columns divide one by one, rising.
	wantRows(t, planOf(read(t, "h :- p(X), X != a"), "0 new X, 1"), l, 13, 11.7)
	wantRows(t, planOf(read(t, "h :- q(a, b)"), "0 bound 0 1"), l, one/5/7)
	if thirteen*0.9 == 11.7 || one/5/7 == one/7/5 || one/5/7 == one/35 {
		t.Error("these numbers tell nothing")
	}
	// Rows of a negative literal's predicate don't count.
	wantRows(t, planOf(read(t, "h :- not none(a), not p(a)"), "0 bound 0, 1 bound 0"), l, 0.5, 0.25)
}

// The first size of a name counts, whatever stands in it.
func TestTheSizeOfAPredicate(t *testing.T) {
	p := planOf(read(t, "h :- p(a, X), q"), "0 bound 0 new X, 1")
	wantRows(t, p, nil, 0, 0)
	wantRows(t, p, sizes(size("p", 4, 2), size("p", 5, 5), size("q", 3)), 2, 6)
	wantRows(t, p, sizes(size("p", 5, 5), size("q", 1), size("p", 4, 2), size("q", 3)), 1, 1)
	wantRows(t, p, sizes(size("p", 0), size("p", 4, 2), size("q", 3)), 0, 0)
	wantRows(t, p, sizes(size("P", 9), size("p ", 9), size("", 9), size("p", 6, 3, 7, 7, 7), size("q", 2, 5, 5)), 2, 4)
	wantRows(t, p, sizes(size("p", 6), size("q", 2)), 6, 12)
	wantRows(t, p, sizes(size("p", 6, 0, 3), size("q", 2)), 6, 12)
	wantRows(t, p, sizes(size("p", 6, 1, 3), size("q", 2)), 6, 12)
}

// Rows have a bound, which a positive literal can't pass, and below which its columns divide.
func TestTheGreatestRows(t *testing.T) {
	const most = math.MaxInt32
	r := rule(atom("h"), slices.Repeat([]api.Literal{positive(atom("p"))}, 40)...)
	p, e := Make(r, nil, -1)
	if e != api.OK {
		t.Fatal(e)
	}
	l := sizes(size("p", most))
	wantRows(t, p, l, plainRows(p, l)...)
	rows, _ := Rows(p, l)
	if rows[31] != 4.185580434451347e298 || rows[32] != 1e300 || rows[39] != 1e300 {
		t.Errorf("Rows of 40 literals is %v", rows)
	}
	if cost, _ := Cost(p, l); cost < 8e300 || cost > 8.05e300 {
		t.Errorf("Cost of 40 literals is %v", cost)
	}
	r.Body = append(r.Body, negative(atom("p")), unlike(constant("a"), constant("a")), positive(atom("q", constant("a"), variable("X"))), positive(atom("none")))
	l = append(l, size("q", most, 10))
	p = plainPlan(r, numbersUpTo(44))
	rows, e = Rows(p, l)
	if most := 1e300; e != api.OK || rows[40] != most/2 || rows[41] != most/2*9/10 || rows[42] != most/10 || rows[43] != 0 {
		t.Errorf("Rows of 44 literals is %v, %v", rows[39:], e)
	}
	wantPlan(t, p, l)
}

// Rows may become so few that they are none.
func TestTheFewestRowsThereCanBe(t *testing.T) {
	const most = math.MaxInt32
	terms := slices.Repeat([]api.Term{constant("a")}, api.MaxArity)
	r := rule(atom("h"), positive(atom("p", terms...)), positive(atom("p", terms...)), positive(atom("p", terms[:2]...)), unlike(constant("a"), constant("b")), negative(atom("p")), positive(atom("p", terms...)), positive(atom("p")))
	l := sizes(size("p", 1, slices.Repeat([]int{most}, api.MaxArity)...))
	p := plainPlan(r, numbersUpTo(7))
	wantPlan(t, p, l)
	rows, _ := Rows(p, l)
	if rows[1] <= 0 || rows[4] <= 0 || rows[5] != 0 || rows[6] != 0 {
		t.Errorf("Rows is %v", rows)
	}
	for i := 1; i < 60; i++ {
		r.Body = append(r.Body[:2:2], positive(atom("q", terms[:1]...)), unlike(constant("a"), constant("b")), negative(atom("p")), unlike(constant("a"), constant("b")))
		wantPlan(t, plainPlan(r, numbersUpTo(6)), append(l, size("q", i, math.MaxInt32>>(i%30))))
	}
}

// Costs are added from the first one on.
func TestCostsAreAddedInOrder(t *testing.T) {
	l := sizes(size("p", 1<<30), size("q", 1<<30-1, 1<<10), size("r", 1, 3))
	r := read(t, "h :- r(a), p, q(a), q(a)")
	met := 0
	for order := range orders(4) {
		p := plainPlan(r, order)
		rows := plainRows(p, l)
		wantRows(t, p, l, rows...)
		slices.Reverse(rows)
		if cost, _ := Cost(p, l); cost != plainSum(rows) {
			met++
		}
	}
	if met == 0 {
		t.Error("these numbers tell nothing")
	}
}

// P16.5

func TestLeast(t *testing.T) {
	wantLeast(t, read(t, "h"), nil, "", 0)
	wantLeast(t, read(t, "h(a)"), exampleSizes(), "", 0)
	wantLeast(t, read(t, "h(X) :- p(X)"), exampleSizes(), "0 new X", 8)
	// Make goes for the fewest rows at once, and pays later.
	r, l := read(t, "h :- a(X), b(Y), c(Y, X)"), sizes(size("a", 4, 4), size("b", 5, 5), size("c", 100, 2, 100))
	wantMake(t, r, l, -1, "0 new X, 2 bound 1 new Y, 1 bound 0")
	wantLeast(t, r, l, "0 new X, 2 bound 1 new Y, 1 bound 0", 12)
	l = sizes(size("a", 4, 4), size("b", 5, 100), size("c", 100, 50, 2))
	wantMake(t, r, l, -1, "0 new X, 1 new Y, 2 bound 0 1")
	wantLeast(t, r, l, "1 new Y, 2 bound 0 new X, 0 bound 0", 25)
	// A test costs what is left behind it, so it may wait.
	r, l = read(t, "h :- a(X), X != b, c(X)"), sizes(size("a", 10, 10), size("c", 1, 10))
	ten, one := 10.0, 1.0
	wantMake(t, r, l, 0, "0 new X, 1, 2 bound 0")
	wantLeast(t, r, l, "2 new X, 1, 0 bound 0", one+0.9+0.9)
	l = sizes(size("a", 10, 10), size("c", 11, 110))
	wantLeast(t, r, l, "0 new X, 2 bound 0, 1", ten+one+one*9/10)
}

// Of several that cost the same the one counts whose row of numbers is least.
func TestLeastOfSeveral(t *testing.T) {
	r := read(t, "h :- p(X), X != a, q(Y), not p(Y)")
	wantLeast(t, r, nil, "0 new X, 1, 2 new Y, 3 bound 0", 0)
	// If q has rows, and p none, p comes first, and all behind it costs nothing.
	wantLeast(t, r, sizes(size("q", 4)), "0 new X, 1, 2 new Y, 3 bound 0", 0)
	wantLeast(t, r, sizes(size("p", 4)), "2 new Y, 0 new X, 1, 3 bound 0", 0)
	wantLeast(t, read(t, "h :- a != b, p(X), q(Y)"), sizes(size("p", 4), size("q", 4)), "0, 1 new X, 2 new Y", 0.9+3.6+14.4)
	wantLeast(t, read(t, "h :- X != b, p(X), q(Y)"), nil, "1 new X, 0, 2 new Y", 0)
	wantLeast(t, read(t, "h :- s, r, q, p, r, s"), sizes(size("p", 1), size("q", 1), size("r", 1), size("s", 1)), "0, 1, 2, 3, 4, 5", 6)
	wantLeast(t, read(t, "h :- s, r, q, p, r, s"), sizes(size("p", 1), size("q", 2), size("r", 1), size("s", 1)), "0, 1, 3, 4, 5, 2", 7)
}

func TestLeastOfTooMany(t *testing.T) {
	body := slices.Repeat([]api.Literal{positive(atom("p"))}, api.MaxBody+1)
	for count := range body {
		r := rule(atom("h"), body[:count]...)
		if count <= api.MaxLeast {
			wantLeast(t, r, sizes(size("p", 1)), "0, 1, 2, 3, 4, 5"[:max(0, 3*count-2)], float64(count))
			continue
		}
		wantNoLeast(t, r, nil, api.ErrArg)
		// Too many go ahead of what is unsafe.
		r.Head.Args = []api.Term{variable("X")}
		wantNoLeast(t, r, nil, api.ErrArg)
	}
	wantNoLeast(t, rule(atom("h", variable("X")), body[:6]...), nil, api.ErrUnsafe)
}

// P16.6

// With the same rows ahead a positive literal has no more rows behind it, if more of its columns are known: all sets of columns are held against all within them.
func TestMoreKnownFewerRows(t *testing.T) {
	const columns = 5
	one, names := size("one", 1), list("A B C D E")
	for _, size := range []api.Size{size("e", 1000, 3, 7, 1, 0, 49), size("e", math.MaxInt32, 1000, 2, math.MaxInt32), size("e", 1), size("e", 0, 9, 9, 9, 9, 9), size("e", 3, 3, 5, 10, 6, 7)} {
		var behind [1 << columns]float64
		for known := range behind {
			var body []api.Literal
			terms := make([]api.Term, columns)
			for column, name := range names {
				terms[column] = variable(name)
				of := "Else" + name
				if known>>column&1 == 1 {
					of = name
				}
				body = append(body, positive(atom("one", variable(of))))
			}
			r := rule(atom("h"), append(body, positive(atom("e", terms...)))...)
			rows, e := Rows(plainPlan(r, numbersUpTo(columns+1)), sizes(one, size))
			if e != api.OK || rows[columns-1] != 1 {
				t.Fatalf("Rows is %v, %v", rows, e)
			}
			behind[known] = rows[columns]
		}
		for more := range behind {
			for less := range behind {
				if more&less == less && behind[more] > behind[less] {
					t.Errorf("of %v: with the columns %b %v rows, with %b %v", size, less, behind[less], more, behind[more])
				}
			}
		}
	}
}

// What is answered is of the same rule.
func TestThePlansRule(t *testing.T) {
	for _, text := range []string{"h", "h(a, \"\") :- b != a", example, `h(X, "X") :- not q(X, "\xff"), p(X, "\x00"), "" != X, a != a, X != X`} {
		r := read(t, text)
		for first := -1; first < len(r.Body); first++ {
			if p, e := Make(r, exampleSizes(), first); e == api.OK && !reflect.DeepEqual(copyOf(p.Rule), copyOf(r)) {
				t.Errorf("Make's rule is %s; want %s", say(p.Rule), say(r))
			}
		}
		if p, _, e := Least(r, exampleSizes()); e != api.OK || !reflect.DeepEqual(copyOf(p.Rule), copyOf(r)) {
			t.Errorf("Least's rule is %s, %v; want %s", say(p.Rule), e, say(r))
		}
		wantLaws(t, r, exampleSizes())
	}
}
