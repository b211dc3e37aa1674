package parse

import (
	"fmt"
	"math/rand"
	"reflect"
	"slices"
	"strings"
	"testing"
	"unsafe"

	"inkling/api"
	"inkling/lex"
)

// P8.2

// samples are programs' texts, of each sort of statement, and of each kind of token.
var samples = []string{
	`input e/2 "f".`, "output t/16.", "p.", "p(a).", "p :- q.", `p(X, a, 12, "b\"\\\n\t\x4a") :- q(X), not r(X), not s, X != 5, a != "b", t.`,
	" input % x\n e / 0 \"\" . ", "nota. inputs(outputs) :- not notb, input1 != output2.", "p. % x", "p.%\nq.\r\n",
	"input e/2 \"f\". output t/2. t(X, Y) :- e(X, Y). t(X, Z) :- e(X, Y), t(Y, Z).",
}

// Every beginning of a program's text is one; a text with one byte more than its offset is none.
func TestEveryBeginning(t *testing.T) {
	r := rand.New(rand.NewSource(83))
	texts := slices.Clone(samples)
	for range 40 {
		texts = append(texts, drawProgram(r, 1+r.Intn(3)).text.String())
	}
	for _, text := range texts {
		for end := range len(text) + 1 {
			if !Begins(text[:end]) {
				t.Errorf("Begins(%q) is false", text[:end])
			}
			if _, _, at, e := Program(text[:end]); e != api.OK && at != end || e == api.OK && at != 0 {
				t.Errorf("Program(%q) is %d, %v", text[:end], at, e)
			}
			if len(text) < 500 {
				wantLaws(t, text[:end])
			}
		}
	}
}

func TestOneByteMoreThanTheOffset(t *testing.T) {
	for _, text := range samples {
		for end := range len(text) + 1 {
			for b := range 256 {
				longer := text[:end] + string([]byte{byte(b)})
				_, _, at, e := Program(longer)
				begins := e == api.OK || at == len(longer)
				if Begins(longer) != begins || e != api.OK && at < end {
					t.Errorf("Program(%q) is %d, %v; Begins %v", longer, at, e, Begins(longer))
				}
				if begins {
					continue
				}
				for _, behind := range []string{"a.", "\n\""} {
					if _, _, at, e := Program(longer + behind); at != end || e != api.ErrSyntax || Begins(longer+behind) {
						t.Errorf("Program(%q) is %d, %v; want the offset %d", longer+behind, at, e, end)
					}
				}
			}
		}
	}
}

// P8.3

func TestRule(t *testing.T) {
	wantRule(t, "p.", 0, rule(atom("p")))
	wantRule(t, "\n % x\n p(X) :- q(X) . % y", 7, rule(atom("p", variable("X")), positive(atom("q", variable("X")))))
	wantNoRule(t, " ", 1)
	wantNoRule(t, "% x", 3)
	wantNoRule(t, "% x\n", 4)
	wantNoRule(t, "p", 1)
	wantNoRule(t, "p :- q", 6)
	wantNoRule(t, "p(a).p(b).", 5)
	wantNoRule(t, "p. q", 3)
	wantNoRule(t, "p. output p/0.", 3)
	wantNoRule(t, "p. .", 3)
	wantNoRule(t, "p. ;", 3)
	wantNoRule(t, "p. \"", 3)
	wantNoRule(t, "p. :", 3)
	wantNoRule(t, "p. not", 3)
	wantNoRule(t, "p. % x\nq", 7)
	wantNoRule(t, `input p/0 "f".`, 5)
	wantNoRule(t, " output p/0. p.", 7)
	wantNoRule(t, "input", 5)
	wantNoRule(t, "input ", 5)
	wantNoRule(t, "not", 3)
	wantNoRule(t, "not p.", 3)
	wantNoRule(t, "outpu", 5)
	wantNoRule(t, "P.", 0)
	wantNoRule(t, "1.", 0)
	wantNoRule(t, `"a".`, 0)
	wantNoRule(t, ".", 0)
	wantNoRule(t, ":", 0)
	wantNoRule(t, "p(a,)", 4)
	wantNoRule(t, "p :- not not q.", 12)
	wantNoRule(t, "p(a"+times(16, ",a")+").", 33)
	wantNoRule(t, "p:-q"+times(256, ",q")+".", 514)
	wantRule(t, "inputs.", 0, rule(atom("inputs")))
}

// P8.4

// move is places so many greater.
func move(list []int, by int) []int {
	var l []int
	for _, x := range list {
		l = append(l, x+by)
	}
	return l
}

// wantBoth: of two programs' texts with a byte 10 between; of a text behind a program's its own offset.
func wantBoth(t testing.TB, one, two string) {
	t.Helper()
	p, at, _, e := Program(one)
	if e != api.OK {
		return
	}
	q, behind, offset, e := Program(two)
	by := len(one) + 1
	if e != api.OK {
		if _, _, both, e := Program(one + "\n" + two); both != by+offset || e != api.ErrSyntax {
			t.Errorf("%q behind %q: %d, %v; want %d", two, one, both, e, by+offset)
		}
		return
	}
	wanted := api.Program{Inputs: append(p.Inputs, q.Inputs...), Outputs: append(p.Outputs, q.Outputs...), Rules: append(p.Rules, q.Rules...)}
	places := api.Places{Inputs: append(at.Inputs, move(behind.Inputs, by)...), Outputs: append(at.Outputs, move(behind.Outputs, by)...), Rules: append(at.Rules, move(behind.Rules, by)...)}
	got, gotPlaces, offset, e := Program(one + "\n" + two)
	if !reflect.DeepEqual(got, wanted) || !reflect.DeepEqual(gotPlaces, places) || offset != 0 || e != api.OK {
		t.Errorf("%q behind %q is\n%+v, %v, %d, %v; want\n%+v, %v", two, one, got, gotPlaces, offset, e, wanted, places)
	}
}

func TestTwoTexts(t *testing.T) {
	texts := append(slices.Clone(samples), "", " ", "%", "% x", "p(", "p(1a)", "not", "not.", ";", "input", "\"")
	for _, one := range texts {
		for _, two := range texts {
			wantBoth(t, one, two)
		}
	}
	r := rand.New(rand.NewSource(84))
	for range 300 {
		wantBoth(t, drawProgram(r, r.Intn(4)).text.String(), drawProgram(r, r.Intn(4)).text.String())
		wantBoth(t, drawProgram(r, r.Intn(4)).text.String(), drawText(r, r.Intn(8)))
	}
}

// Blanks between tokens change nothing but places.
func TestBlanksBetweenTokens(t *testing.T) {
	r := rand.New(rand.NewSource(85))
	texts := slices.Clone(samples)
	for range 60 {
		texts = append(texts, drawProgram(r, 1+r.Intn(3)).text.String())
	}
	for _, text := range texts {
		program, places, _, e := Program(text)
		if e != api.OK {
			t.Fatalf("Program(%q) is %v", text, e)
		}
		list, _, _, _ := lex.Tokens(text)
		for i := range len(list) + 1 {
			at := len(text)
			if i < len(list) {
				at = list[i].At
			}
			for _, blanks := range []string{" ", "\t", "\n", "\r", "% p(\n", "\n%\"\n "} {
				if i == len(list) {
					blanks = "\n" + blanks
				}
				wantMoved(t, text, at, blanks, program, places)
			}
		}
	}
}

func wantMoved(t *testing.T, text string, at int, blanks string, program api.Program, places api.Places) {
	t.Helper()
	got, gotPlaces, _, e := Program(text[:at] + blanks + text[at:])
	moved := func(list []int) []int {
		l := slices.Clone(list)
		for i, x := range l {
			if x >= at {
				l[i] += len(blanks)
			}
		}
		return l
	}
	wanted := api.Places{Inputs: moved(places.Inputs), Outputs: moved(places.Outputs), Rules: moved(places.Rules)}
	if e != api.OK || !reflect.DeepEqual(got, program) || !reflect.DeepEqual(gotPlaces, wanted) {
		t.Errorf("%q with %q at %d is %+v, %v, %v; want %+v, %v", text, blanks, at, got, gotPlaces, e, program, wanted)
	}
}

// A blank within a token makes another text of it.
func TestBlanksWithinTokens(t *testing.T) {
	wantStop(t, "p : - q.", 3)
	wantStop(t, "p :- a ! = b.", 8)
	wantStop(t, "in put p/1 \"f\".", 3)
	wantStop(t, "p q.", 2)
	wantStop(t, "output p/1 6.", 11)
	wantRule(t, `p("a b").`, 0, rule(atom("p", constant("a b"))))
}

// What is answered is new memory.

const shared = `input e/2 "f". input e/3 "f". output t/1. output t/1. output t/1. p(X, a) :- q(X, a, a), not r(X), X != a, q(a). p(b, c, "d") :- q(1), q(a, a). q. q(a).`

// spoil changes all that lies in a program and its places, spare room too.
func spoil(p api.Program, q api.Places) {
	for _, list := range [][]int{q.Inputs, q.Outputs, q.Rules} {
		for i := range list[:cap(list)] {
			list[:cap(list)][i] = -1
		}
	}
	for i := range p.Inputs[:cap(p.Inputs)] {
		p.Inputs[:cap(p.Inputs)][i] = api.Input{Pred: "spoilt", Arity: -1, File: "spoilt"}
	}
	for i := range p.Outputs[:cap(p.Outputs)] {
		p.Outputs[:cap(p.Outputs)][i] = api.Output{Pred: "spoilt", Arity: -1}
	}
	for i := range p.Rules {
		spoilRule(p.Rules[i])
	}
	for i := range p.Rules[:cap(p.Rules)] {
		p.Rules[:cap(p.Rules)][i] = api.Rule{Head: api.Atom{Pred: "spoilt"}}
	}
}

func spoilRule(r api.Rule) {
	spoilTerms(r.Head.Args)
	for _, x := range r.Body {
		spoilTerms(x.Atom.Args)
	}
	for i := range r.Body[:cap(r.Body)] {
		r.Body[:cap(r.Body)][i] = api.Literal{Kind: 99, Left: api.Term{Text: "spoilt"}}
	}
}

func spoilTerms(list []api.Term) {
	for i := range list[:cap(list)] {
		list[:cap(list)][i] = api.Term{Var: true, Text: "spoilt"}
	}
}

func TestAnswersAreChangedAfterwards(t *testing.T) {
	p, q, _, _ := Program(shared)
	wanted, wantedPlaces, _, e := Program(shared)
	said := fmt.Sprintf("%q %v", fmt.Sprintf("%+v", wanted), wantedPlaces)
	if e != api.OK {
		t.Fatal(e)
	}
	spoil(p, q)
	if now := fmt.Sprintf("%q %v", fmt.Sprintf("%+v", wanted), wantedPlaces); now != said {
		t.Errorf("another answer is now %s", now)
	}
	if again, places, _, _ := Program(shared); !reflect.DeepEqual(again, wanted) || !reflect.DeepEqual(places, wantedPlaces) {
		t.Errorf("Program is now %+v, %v", again, places)
	}
	one, _, _ := Rule(samples[5])
	two, _, _ := Rule(samples[5])
	spoilRule(one)
	if three, _, _ := Rule(samples[5]); !reflect.DeepEqual(two, three) || two.Head.Args[0] != variable("X") {
		t.Errorf("Rule is now %+v", two)
	}
}

// No list of an answer lies in the room of another one of it: each is changed, spare room too, and the others are as before.
func TestNothingIsSharedWithinAnAnswer(t *testing.T) {
	count := 0
	lists := func(p api.Program) []*[]api.Term {
		var l []*[]api.Term
		for i := range p.Rules {
			l = append(l, &p.Rules[i].Head.Args)
			for j := range p.Rules[i].Body {
				l = append(l, &p.Rules[i].Body[j].Atom.Args)
			}
		}
		return l
	}
	whole, _, _, _ := Program(shared)
	for i := range lists(whole) {
		p, _, _, _ := Program(shared)
		spoilTerms(*lists(p)[i])
		for j, x := range lists(p) {
			if j != i && !reflect.DeepEqual(*x, *lists(whole)[j]) {
				t.Errorf("the list %d changed with the list %d", j, i)
			}
			count++
		}
	}
	for i := range whole.Rules {
		p, _, _, _ := Program(shared)
		spoilRule(p.Rules[i])
		for j, x := range p.Rules {
			if j != i && !reflect.DeepEqual(x, whole.Rules[j]) {
				t.Errorf("the rule %d changed with the rule %d", j, i)
			}
		}
	}
	if count == 0 {
		t.Error("nothing was looked at")
	}
	p, q, _, _ := Program(shared)
	spoil(api.Program{}, api.Places{Inputs: q.Inputs})
	if !reflect.DeepEqual(p, whole) || !slices.Equal(q.Outputs, []int{30, 42, 54}) {
		t.Errorf("the places of outputs are %v", q.Outputs)
	}
}

// overlap tells whether two texts have memory in common.
func overlap(a, b string) bool {
	if a == "" || b == "" {
		return false
	}
	x, y := uintptr(unsafe.Pointer(unsafe.StringData(a))), uintptr(unsafe.Pointer(unsafe.StringData(b)))
	return x < y+uintptr(len(b)) && y < x+uintptr(len(a))
}

// No text of a program is a piece of the text that was handed in, or of another one.
func TestTextsAreNewMemory(t *testing.T) {
	text := strings.Clone(shared)
	p, _, _, _ := Program(text)
	var all []string
	terms := func(list []api.Term) {
		for _, x := range list {
			all = append(all, x.Text)
		}
	}
	for _, x := range p.Inputs {
		all = append(all, x.Pred, x.File)
	}
	for _, x := range p.Outputs {
		all = append(all, x.Pred)
	}
	for _, x := range p.Rules {
		all = append(all, x.Head.Pred)
		terms(x.Head.Args)
		for _, y := range x.Body {
			all = append(all, y.Atom.Pred, y.Left.Text, y.Right.Text)
			terms(y.Atom.Args)
		}
	}
	for i, x := range all {
		if overlap(x, text) {
			t.Errorf("%q is a piece of the text", x)
		}
		for _, y := range all[:i] {
			if overlap(x, y) {
				t.Errorf("two texts %q share their memory", x)
			}
		}
	}
}
