package parse

import (
	"fmt"
	"math/rand"
	"reflect"
	"strconv"
	"strings"
	"testing"

	"inkling/api"
)

// The chapter's examples, row by row.
func TestExamples(t *testing.T) {
	wantRule(t, "p(X) :- q(X), not r(X), X != 5.", 0, rule(atom("p", variable("X")), positive(atom("q", variable("X"))), negative(atom("r", variable("X"))), unlike(variable("X"), constant("5"))))
	wantProgram(t, "", api.Program{}, api.Places{})
	wantProgram(t, " % a remark", api.Program{}, api.Places{})
	wantStop(t, "p", 1)
	wantStop(t, "p(a", 3)
	wantStop(t, "p :- ", 5)
	wantStop(t, "p()", 2)
	wantStop(t, "p(a,)", 4)
	wantStop(t, "p(a b).", 4)
	wantStop(t, "p(a).)", 5)
	wantStop(t, "P.", 0)
	wantStop(t, "5.", 0)
	wantStop(t, `"a".`, 0)
	wantStop(t, ".", 0)
	wantStop(t, "not.", 3)
	wantStop(t, "input.", 5)
	wantStop(t, "output(", 6)
	wantRule(t, "nota.", 0, rule(atom("nota")))
	wantStop(t, "not p.", 3)
	wantStop(t, "input :- p.", 6)
	wantStop(t, "p :- not not q.", 12)
	wantStop(t, "p :- not.", 8)
	wantRule(t, "p :- a != b.", 0, rule(atom("p"), unlike(constant("a"), constant("b"))))
	wantStop(t, "p :- a(b) != c.", 10)
	wantStop(t, "p :- X.", 6)
	wantStop(t, "p :- 5, q.", 6)
	wantStop(t, `p :- "a".`, 8)
	wantStop(t, "p :- X = Y.", 7)
	wantStop(t, "p :- q ! = r.", 8)
	wantStop(t, "p : - q.", 3)
	wantStop(t, "p(1a).", 3)
	wantRule(t, "p(a_B1).", 0, rule(atom("p", constant("a_B1"))))
	wantStop(t, "p(12_).", 4)
	wantProgram(t, `input p/2 "f".`, api.Program{Inputs: []api.Input{{Pred: "p", Arity: 2, File: "f"}}}, api.Places{Inputs: []int{0}})
	wantStop(t, `input p/02 "f".`, 9)
	wantProgram(t, `input p/16"f".`, api.Program{Inputs: []api.Input{{Pred: "p", Arity: 16, File: "f"}}}, api.Places{Inputs: []int{0}})
	wantStop(t, `input p/17 "f".`, 9)
	wantStop(t, `output p/2 "f".`, 11)
	wantStop(t, "input p/2.", 9)
	wantProgram(t, "output p / 0 .", api.Program{Outputs: []api.Output{{Pred: "p"}}}, api.Places{Outputs: []int{0}})
	wantStop(t, `p("a\qb").`, 5)
	wantStop(t, `p("\x4G").`, 6)
	wantRule(t, `p("\x4a").`, 0, rule(atom("p", constant("J"))))
	wantStop(t, "p(\"a\n", 4)
	wantStop(t, "p(not).", 5)
	wantStop(t, "p(X, not", 8)
	wantRule(t, "p(nota).", 0, rule(atom("p", constant("nota"))))
	wantStop(t, times(65, "a")+".", 64)
	wantStop(t, `p("`+times(1025, "a")+`").`, 1027)
	wantStop(t, "p(a"+times(16, ",a")+").", 33)
	wantStop(t, "p:-q"+times(256, ",q")+".", 514)
}

// What DOC.md says of beginnings and offsets.
func TestExamplesOfTheWhole(t *testing.T) {
	wantStop(t, "p(1a)", 3)
	wantStop(t, "input(", 5)
	wantStop(t, "inp(", 4)
	wantStop(t, "p :", 3)
	wantStop(t, "p :- X !", 8)
	wantStop(t, "input p/17", 9)
	wantStop(t, "p(a", 3)
	wantStop(t, "p % x", 5)
	wantProgram(t, "p. % x", api.Program{Rules: []api.Rule{rule(atom("p"))}}, api.Places{Rules: []int{0}})
}

func TestExamplesOfRule(t *testing.T) {
	wantRule(t, "p(a). ", 0, rule(atom("p", constant("a"))))
	wantNoRule(t, "p. q.", 3)
	wantNoRule(t, "", 0)
	wantNoRule(t, "output p/0.", 6)
}

// P8.1

func TestNoStatements(t *testing.T) {
	for _, text := range []string{"", " ", "\t", "\n", "\r", " \t\r\n", "%", "%\n", "%%", "% p(", "% p(\n", "% x\n% y\n \n", "%\"\n", "%\xff\x00;\n"} {
		wantProgram(t, text, api.Program{}, api.Places{})
		wantNoRule(t, text, len(text))
		if !Begins(text) {
			t.Errorf("Begins(%q) is false", text)
		}
	}
}

func TestStatementsMixed(t *testing.T) {
	text := " p(a).\noutput q/3. input p/0\"\".%output z/1.\n q:-p.input r/16 \"a b\\n\" . output p/10.\tq.output q/3."
	wantProgram(t, text, api.Program{
		Inputs:  []api.Input{{Pred: "p", Arity: 0, File: ""}, {Pred: "r", Arity: 16, File: "a b\n"}},
		Outputs: []api.Output{{Pred: "q", Arity: 3}, {Pred: "p", Arity: 10}, {Pred: "q", Arity: 3}},
		Rules:   []api.Rule{rule(atom("p", constant("a"))), rule(atom("q"), positive(atom("p"))), rule(atom("q"))},
	}, api.Places{Inputs: []int{19, 50}, Outputs: []int{7, 71, 86}, Rules: []int{1, 45, 84}})
}

func TestTerms(t *testing.T) {
	wantRule(t, `p(X, Xa_9, a, aB_0, 0, 007, "", "X", "a b", "\"\\\n\t\x00\xff", "not", "input").`, 0, rule(atom("p",
		variable("X"), variable("Xa_9"), constant("a"), constant("aB_0"), constant("0"), constant("007"), constant(""), constant("X"), constant("a b"), constant("\"\\\n\t\x00\xff"), constant("not"), constant("input"))))
	wantStop(t, `p(a"b").`, 3)
	wantStop(t, "p(X Y).", 4)
	wantStop(t, "p(-1).", 2)
	wantStop(t, "p(_).", 2)
	wantStop(t, "p(q(a)).", 3)
	wantStop(t, "p((a)).", 2)
	wantStop(t, "p(a != b).", 4)
	wantStop(t, "p(a/1).", 3)
}

func TestAtoms(t *testing.T) {
	wantRule(t, "p.", 0, rule(atom("p")))
	wantRule(t, "p :- q, not r, q.", 0, rule(atom("p"), positive(atom("q")), negative(atom("r")), positive(atom("q"))))
	for _, x := range []struct {
		ahead, behind string
	}{{"p", "."}, {"p :- q", "."}, {"p :- not q", "."}, {"p :- r, q", ", r."}} {
		at := len(x.ahead)
		wantStop(t, x.ahead+"()"+x.behind, at+1)
		wantStop(t, x.ahead+"( )"+x.behind, at+2)
		wantStop(t, x.ahead+"(,)"+x.behind, at+1)
		wantStop(t, x.ahead+"(,a)"+x.behind, at+1)
		wantStop(t, x.ahead+"(a,)"+x.behind, at+3)
		wantStop(t, x.ahead+"(a,,b)"+x.behind, at+3)
		wantStop(t, x.ahead+"(a, )"+x.behind, at+4)
		wantStop(t, x.ahead+"(a.)"+x.behind, at+2)
		wantStop(t, x.ahead+"(a))"+x.behind, at+3)
		wantStop(t, x.ahead+"(a)(b)"+x.behind, at+3)
		wantStop(t, x.ahead+")"+x.behind, at)
		wantStop(t, x.ahead+"(a.", at+2)
		wantStop(t, x.ahead+"(a,", at+3)
		wantStop(t, x.ahead+"(a:-", at+2)
	}
}

func TestManyTerms(t *testing.T) {
	for _, term := range []string{"a", "X", "1", `"b"`, "a ", " a"} {
		for _, x := range []struct {
			ahead, behind string
		}{{"p(", ")."}, {"p :- q(", ")."}, {"p :- not q(", "), r."}, {"p(X) :- X != a, q(", ")."}} {
			sixteen := x.ahead + term + times(15, ","+term)
			if p, _, _, e := Program(sixteen + x.behind); e != api.OK || len(p.Rules) != 1 {
				t.Errorf("Program(%q) is %v, %v", sixteen+x.behind, p, e)
			}
			wantLaws(t, sixteen+x.behind)
			wantStop(t, sixteen+","+term+x.behind, len(sixteen))
			wantStop(t, sixteen+",", len(sixteen))
			wantStop(t, sixteen+" , ", len(sixteen)+1)
			wantStop(t, sixteen, len(sixteen))
			fifteen := x.ahead + term + times(14, ","+term)
			wantStop(t, fifteen+",", len(fifteen)+1)
			wantStop(t, fifteen+","+x.behind, len(fifteen)+1)
		}
	}
	r, _, e := Rule("p(a0" + strings.Join([]string{"", "a1", "a2", "a3", "a4", "a5", "a6", "a7", "a8", "a9", "a10", "a11", "a12", "a13", "a14", "a15"}, ",") + ").")
	if e != api.OK || len(r.Head.Args) != 16 {
		t.Fatalf("%v, %v", r, e)
	}
	for i, x := range r.Head.Args {
		if x != constant(fmt.Sprint("a", i)) {
			t.Errorf("the term %d is %v", i, x)
		}
	}
}

func TestManyLiterals(t *testing.T) {
	for _, literal := range []string{"q", "not q", "a!=b", "q(a, X)", "X != Y ", `"" != 1`} {
		for _, head := range []string{"p:-", "p(X, Y) :- "} {
			most := head + literal + times(255, ","+literal)
			if r, at, e := Rule(most + "."); e != api.OK || at != 0 || len(r.Body) != 256 {
				t.Errorf("of 256 literals %q: %d, %v", literal, at, e)
			}
			wantLaws(t, most+".")
			wantStop(t, most+","+literal+".", len(most))
			wantNoRule(t, most+","+literal+".", len(most))
			wantStop(t, most+",", len(most))
			wantStop(t, most+"%\n,", len(most)+2)
			wantStop(t, most, len(most))
			fewer := head + literal + times(254, ","+literal)
			wantStop(t, fewer+",", len(fewer)+1)
			wantStop(t, fewer+",.", len(fewer)+1)
		}
	}
	// A rule's bounds are its own: another one begins anew.
	text := "p:-q" + times(255, ",q") + ". p:-q" + times(255, ",q") + ".p(a" + times(15, ",a") + ") :- q(a" + times(15, ",a") + "), not q(a" + times(15, ",a") + ")."
	if p, _, _, e := Program(text); e != api.OK || len(p.Rules) != 3 || len(p.Rules[0].Body) != 256 || len(p.Rules[1].Body) != 256 {
		t.Errorf("%d rules, %v", len(p.Rules), e)
	}
	wantLaws(t, text)
}

func TestComparisons(t *testing.T) {
	for _, x := range []struct {
		text string
		term api.Term
	}{{"a", constant("a")}, {"5", constant("5")}, {"05", constant("05")}, {`"a b"`, constant("a b")}, {`""`, constant("")}, {"X", variable("X")}, {"nota", constant("nota")}} {
		for _, y := range []struct {
			text string
			term api.Term
		}{{"b", constant("b")}, {"6", constant("6")}, {`"not"`, constant("not")}, {"Y", variable("Y")}, {"inputs", constant("inputs")}} {
			wantRule(t, "p:-"+x.text+"!="+y.text+".", 0, rule(atom("p"), unlike(x.term, y.term)))
			wantRule(t, "p :- q , "+x.text+" != "+y.text+" , q .", 0, rule(atom("p"), positive(atom("q")), unlike(x.term, y.term), positive(atom("q"))))
			ahead := "p :- " + x.text + " != " + y.text
			wantStop(t, ahead+" != c.", len(ahead)+1)
			wantStop(t, ahead+"(c).", len(ahead))
			wantStop(t, ahead+":-q.", len(ahead))
		}
		ahead := "p :- " + x.text
		wantStop(t, ahead+" = b.", len(ahead)+1)
		wantStop(t, ahead+" ! = b.", len(ahead)+2)
		wantStop(t, ahead+" !", len(ahead)+2)
		wantStop(t, ahead+" != .", len(ahead)+4)
		wantStop(t, ahead+" != not.", len(ahead)+7)
		wantStop(t, ahead+" != not b.", len(ahead)+7)
		wantStop(t, ahead+" != input", len(ahead)+9)
		wantStop(t, ahead+" != , q.", len(ahead)+4)
	}
	for _, x := range []string{"5", `"a"`, "X"} {
		wantStop(t, "p :- "+x+".", 5+len(x))
		wantStop(t, "p :- "+x+", q.", 5+len(x))
		wantStop(t, "p :- "+x+"(a) != b.", 5+len(x))
	}
	wantStop(t, "p :- q(a) != b.", 10)
	wantStop(t, "p :- q(a) !", 10)
	wantStop(t, "p :- q(a)!=b.", 9)
	wantStop(t, "5 != q.", 0)
	wantStop(t, "X != q.", 0)
	wantStop(t, "p != q.", 2)
	wantStop(t, "p !", 2)
	wantStop(t, "p(a) != q.", 5)
}

func TestNot(t *testing.T) {
	wantRule(t, "p:-not q.", 0, rule(atom("p"), negative(atom("q"))))
	wantRule(t, "p:-not\nq(X),not%\nr.", 0, rule(atom("p"), negative(atom("q", variable("X"))), negative(atom("r"))))
	wantRule(t, "p:-notq.", 0, rule(atom("p"), positive(atom("notq"))))
	wantRule(t, "p:-not notq.", 0, rule(atom("p"), negative(atom("notq"))))
	wantRule(t, "p:-notq != not1.", 0, rule(atom("p"), unlike(constant("notq"), constant("not1"))))
	wantStop(t, "p :- not", 8)
	wantStop(t, "p :- not ", 9)
	wantStop(t, "p :- not X != Y.", 9)
	wantStop(t, "p :- not a != b.", 11)
	wantStop(t, "p :- not a !", 11)
	wantStop(t, "p :- not 5 != b.", 9)
	wantStop(t, `p :- not "a" != b.`, 9)
	wantStop(t, "p :- not a(b) != c.", 14)
	wantStop(t, "p :- not not q.", 12)
	wantStop(t, "p :- not not", 12)
	wantStop(t, "p :- not not ", 12)
	wantStop(t, "p :- not(q).", 8)
	wantStop(t, "p :- not, q.", 8)
	wantStop(t, "p :- not != q.", 9)
	wantStop(t, "not p :- q.", 3)
	wantStop(t, "p, not q.", 1)
}

// The reserved words as beginnings of names, where a name may come.
func TestReservedWords(t *testing.T) {
	names := []string{"", "p. ", "input ", "output ", "p(", "p(a, ", "p :- not ", "p :- q(", "p :- not q(X,", "p :- X != ", "p :- ", "p :- q, "}
	for _, word := range []string{"input", "output", "not"} {
		for _, ahead := range names {
			whole := len(ahead) + len(word)
			reserved := ahead + word
			if !Begins(reserved) || !Begins(reserved+"s") || !Begins(reserved+"_") || !Begins(reserved+"1 ") {
				t.Errorf("%q is no beginning", reserved)
			}
			wantLaws(t, reserved+"s")
			for i := 1; i < len(word); i++ {
				wantStop(t, ahead+word[:i], len(ahead)+i)
			}
			// Where the word itself may come, a blank may come behind it.
			blank := 0
			if word == "not" && (ahead == "p :- " || ahead == "p :- q, ") || word != "not" && (ahead == "" || ahead == "p. ") {
				blank = 1
			}
			for _, behind := range []string{" ", "\n", "%", " .", "\n("} {
				wantStop(t, reserved+behind, whole+blank)
			}
			wantStop(t, reserved+".", whole)
			wantStop(t, reserved+";", whole)
		}
		for _, ahead := range []string{"p ", "p(a ", "p(a) ", "p :- q ", "p :- X ", "p :- X != Y ", "input p ", "input p/", "input p/1 ", `input p/1 "f" `, "output p/", "output p/1 "} {
			wantStop(t, ahead+word, len(ahead))
			wantStop(t, ahead+word+"s.", len(ahead))
		}
	}
	wantRule(t, "inputs(outputs) :- nota, input_, not outputX, input1 != output2.", 0, rule(atom("inputs", constant("outputs")), positive(atom("nota")), positive(atom("input_")), negative(atom("outputX")), unlike(constant("input1"), constant("output2"))))
	wantProgram(t, `input inputs/1 "". output outputs/1.`, api.Program{Inputs: []api.Input{{Pred: "inputs", Arity: 1}}, Outputs: []api.Output{{Pred: "outputs", Arity: 1}}}, api.Places{Inputs: []int{0}, Outputs: []int{19}})
	wantStop(t, `input not/1 "".`, 9)
	wantStop(t, "output input/1.", 12)
	wantStop(t, "output output/1.", 13)
}

func TestWordsWithNoBlankBetween(t *testing.T) {
	wantStop(t, `inputp/2 "f".`, 6)
	wantStop(t, "outputp/2.", 7)
	wantRule(t, "p:-notq.", 0, rule(atom("p"), positive(atom("notq"))))
	wantStop(t, "p(1a).", 3)
	wantStop(t, "p(1A).", 3)
	wantStop(t, "p(1not).", 3)
	wantStop(t, "p :- 1a != b.", 6)
	wantStop(t, "output p/2output q/1.", 10)
	wantStop(t, `input p/2f "f".`, 9)
	wantStop(t, "output p/1a.", 10)
	wantRule(t, `p(a)%x`+"\n.", 0, rule(atom("p", constant("a"))))
	wantProgram(t, `input%`+"\n"+`p/2"f".p.output q/1.`, api.Program{Inputs: []api.Input{{Pred: "p", Arity: 2, File: "f"}}, Outputs: []api.Output{{Pred: "q", Arity: 1}}, Rules: []api.Rule{rule(atom("p"))}}, api.Places{Inputs: []int{0}, Outputs: []int{16}, Rules: []int{14}})
}

// beginning is one that ends in a blank or a sign, and the kinds of tokens that may come there: n name, v variable, d number, s string, i input, o output, ! not, the others by their first byte (u for the unlike sign).
type beginning struct {
	ahead, may string
}

var beginnings = []beginning{
	{"", "nio"}, {" ", "nio"}, {"% x\n", "nio"}, {"p. ", "nio"}, {"p.", "nio"}, {`input p/0 "".`, "nio"}, {"output p/0.\n", "nio"},
	{"input ", "n"}, {"input p ", "/"}, {"input p/", "d"}, {"input p / ", "d"}, {"input p/2 ", "s"}, {`input p/2 "f" `, "."}, {`input p/2 "f"`, "."},
	{"output ", "n"}, {"output p ", "/"}, {"output p/", "d"}, {"output p/2 ", "."},
	{"p ", "(:."}, {"p(", "vnds"}, {"p( ", "vnds"}, {"p(a ", ",)"}, {"p(X ", ",)"}, {"p(1 ", ",)"}, {`p("a"`, ",)"}, {"p(a,", "vnds"}, {"p(a, X, ", "vnds"}, {"p(a)", ":."}, {"p(a, b) ", ":."},
	{"p :-", "vnds!"}, {"p(X) :- ", "vnds!"}, {"p :- q,", "vnds!"}, {"p :- not q(a), ", "vnds!"}, {"p :- X != Y, ", "vnds!"},
	{"p :- not ", "n"}, {"p :- not q ", "(,."}, {"p :- not q(", "vnds"}, {"p :- not q(a ", ",)"}, {"p :- not q(a) ", ",."},
	{"p :- q ", "(u,."}, {"p :- q(", "vnds"}, {"p :- q(a ", ",)"}, {"p :- q(a,", "vnds"}, {"p :- q(a)", ",."}, {"p :- r, q ", "(u,."},
	{"p :- X ", "u"}, {"p :- 5 ", "u"}, {`p :- "a"`, "u"}, {"p :- q, X ", "u"},
	{"p :- X != ", "vnds"}, {"p :- a !=", "vnds"}, {"p :- X != Y ", ",."}, {"p :- a != b ", ",."}, {"p :- 1 != 2 ", ",."}, {`p :- "a" != "b"`, ",."},
}

// What may come next may, and at what may not the text ends.
func TestWhatMayComeNext(t *testing.T) {
	tokens := map[string]string{"n": "zz", "v": "Z", "d": "7", "s": `"z"`, "i": "input", "o": "output", "!": "not", "(": "(", ")": ")", ",": ",", ".": ".", "/": "/", ":": ":-", "u": "!="}
	open := map[string][]string{"s": {`"`, `"z`, `"\`, `"\x`, `"\x4`}, ":": {":"}, "u": {"!"}}
	for _, x := range beginnings {
		if !Begins(x.ahead) {
			t.Errorf("%q is no beginning", x.ahead)
		}
		for kind, token := range tokens {
			at := len(x.ahead)
			switch {
			case strings.Contains(x.may, kind):
				if !Begins(x.ahead + token) {
					t.Errorf("%q is no beginning", x.ahead+token)
				}
				wantLaws(t, x.ahead+token)
				continue
			case strings.Contains("io!", kind) && strings.Contains(x.may, "n"):
				at += len(token)
			}
			for _, behind := range []string{"", " ", ".", " .", ")", " a"} {
				wantStop(t, x.ahead+token+behind, at)
			}
		}
		for kind, all := range open {
			for _, begun := range all {
				if strings.Contains(x.may, kind) {
					wantStop(t, x.ahead+begun, len(x.ahead+begun))
					wantStop(t, x.ahead+begun+"\n", len(x.ahead+begun))
				} else {
					wantStop(t, x.ahead+begun, len(x.ahead))
					wantStop(t, x.ahead+begun+"\n", len(x.ahead))
				}
			}
		}
	}
}

func TestBytesThatStandNowhere(t *testing.T) {
	for b := range 256 {
		one := string([]byte{byte(b)})
		if strings.Contains(inWord[:62]+" \t\n\r%\"(),./:!", one) {
			continue
		}
		for _, x := range beginnings {
			wantStop(t, x.ahead+one, len(x.ahead))
			wantStop(t, x.ahead+one+".", len(x.ahead))
		}
	}
}

func TestStrings(t *testing.T) {
	for _, x := range []struct{ ahead, behind string }{{"p(", ")."}, {"input p/1 ", "."}, {"p :- ", "!=a."}, {"p :- a != ", "."}, {"p :- not q(X, ", ")."}} {
		at := len(x.ahead)
		for _, text := range []string{`""`, `"a"`, `"\""`, `"\\"`, `"\n\t"`, `"\x00\xff"`, `"%"`, `").."`, `"` + times(1024, "a") + `"`, `"` + times(1024, `\x0a`) + `"`} {
			if !Begins(x.ahead+text) || Begins(x.ahead+text+";") {
				t.Errorf("%q", x.ahead+text)
			}
			if _, _, _, e := Program(x.ahead + text + x.behind); e != api.OK {
				t.Errorf("Program(%q) is %v", x.ahead+text+x.behind, e)
			}
			wantLaws(t, x.ahead+text+x.behind)
		}
		for text, far := range map[string]int{`"`: 1, `"a`: 2, `"\`: 2, `"\x`: 3, `"\x4`: 4, `"\x4a`: 5, `"a\"`: 4} {
			wantStop(t, x.ahead+text, at+far)
		}
		for text, far := range map[string]int{`"\q"`: 2, `"a\N"`: 3, `"\xg0"`: 3, `"\x0G"`: 4, `"\X41"`: 2, "\"a\n\"": 2, "\"a\t\"": 2, "\"\x7f\"": 1, "\"é\"": 1, "\"\x00\"": 1} {
			wantStop(t, x.ahead+text+x.behind, at+far)
		}
		for _, piece := range []string{"a", `\n`, `\x41`, `\\`} {
			most := x.ahead + `"` + times(1024, piece)
			wantStop(t, most, len(most))
			for _, more := range []string{"a", `\`, `\n`, `\x41`, "\n"} {
				wantStop(t, most+more, len(most))
				wantStop(t, most+more+`"`+x.behind, len(most))
			}
		}
	}
}

func TestLongWords(t *testing.T) {
	for first, ahead := range map[string][]string{
		"a": {"", "p. ", "input ", "output ", "p(", "p :- ", "p :- not ", "p :- X != "},
		"A": {"p(", "p :- ", "p :- q(X,", "p :- a != "},
		"1": {"p(", "p :- ", "p :- q(X,", "p :- a != "},
	} {
		for _, begun := range ahead {
			most := begun + first + times(63, "1")
			for _, more := range []string{"a", "1", "_", "Z", ";"} {
				wantStop(t, most+more, len(most))
				wantStop(t, most+more+".", len(most))
			}
			wantStop(t, most, len(most))
			wantStop(t, most+" ", len(most)+1)
			wantStop(t, begun+first+times(500, "1"), len(most))
		}
	}
	name, number, greatName := "a"+times(63, "b"), times(64, "7"), "A"+times(63, "B")
	wantRule(t, name+"("+name+","+number+","+greatName+") :- "+name+", not "+name+", "+number+" != "+greatName+".", 0, rule(
		atom(name, constant(name), constant(number), variable(greatName)), positive(atom(name)), negative(atom(name)), unlike(constant(number), variable(greatName))))
	wantProgram(t, "input "+name+"/1 \"\". output "+name+"/2.", api.Program{Inputs: []api.Input{{Pred: name, Arity: 1}}, Outputs: []api.Output{{Pred: name, Arity: 2}}}, api.Places{Inputs: []int{0}, Outputs: []int{77}})
	// A name that is reserved as far as it goes is none, and goes on up to its bound.
	for _, word := range []string{"input", "output", "not"} {
		long := word + times(64-len(word), "x")
		wantRule(t, long+".", 0, rule(atom(long)))
		wantStop(t, long+"x.", 64)
	}
}

func TestArities(t *testing.T) {
	for n := range 200 {
		number := strconv.Itoa(n)
		input, output := `input p/`+number+` "f".`, "output p/"+number+"."
		if n <= 16 {
			wantProgram(t, input, api.Program{Inputs: []api.Input{{Pred: "p", Arity: n, File: "f"}}}, api.Places{Inputs: []int{0}})
			wantProgram(t, output, api.Program{Outputs: []api.Output{{Pred: "p", Arity: n}}}, api.Places{Outputs: []int{0}})
			continue
		}
		digits := 1
		if first, _ := strconv.Atoi(number[:2]); n > 99 && first <= 16 {
			digits = 2
		}
		wantStop(t, input, 8+digits)
		wantStop(t, output, 9+digits)
	}
	for number, digits := range map[string]int{
		"00": 1, "01": 1, "000": 1, "016": 1, "0 ": 2, "17": 1, "20": 1, "99": 1, "160": 2, "100": 2, "161": 2,
		"1" + times(63, "0"): 2, times(64, "0"): 1, times(64, "1"): 2, times(65, "1"): 2, times(500, "9"): 1, "18446744073709551617": 1, "4294967296": 1,
		"-1": 0, "+1": 0, "1.": 1, "1a": 1, "a": 0, "X": 0, `"1"`: 0, "": 0, "1 6": 2, "16 1": 3, "1_": 1, "0x1": 1,
	} {
		wantStop(t, "input p/"+number, 8+digits)
		if number != "1." {
			wantStop(t, "output p/"+number, 9+digits)
		}
	}
	wantStop(t, "input p/17", 9)
	wantStop(t, "input p/16", 10)
	wantStop(t, "input p 2", 8)
	wantStop(t, "input p//2", 8)
	wantStop(t, "input p(X)/2", 7)
}

func TestInputsAndOutputs(t *testing.T) {
	wantStop(t, `input p/2 "f" "g".`, 14)
	wantStop(t, "input p/2 f.", 10)
	wantStop(t, `input "p"/2 "f".`, 6)
	wantStop(t, `input P/2 "f".`, 6)
	wantStop(t, `input p/2, q/1 "f".`, 9)
	wantStop(t, `input p/2 "f" :- q.`, 14)
	wantStop(t, `output p/2 :- q.`, 11)
	wantStop(t, "output p.", 8)
	wantStop(t, "output p/2, q/2.", 10)
	wantStop(t, "output 1/2.", 7)
	wantStop(t, "input", 5)
	wantStop(t, "output ", 7)
	wantStop(t, "p :- output q/1.", 11)
	long := times(1024, "f")
	wantProgram(t, `input p/2 "`+long+`".`, api.Program{Inputs: []api.Input{{Pred: "p", Arity: 2, File: long}}}, api.Places{Inputs: []int{0}})
	wantProgram(t, "input\tp\n/\r2% x\n\"\\x00\"% y\n.", api.Program{Inputs: []api.Input{{Pred: "p", Arity: 2, File: "\x00"}}}, api.Places{Inputs: []int{0}})
}

// Statements behind one another: nothing of the one stands in the other.
func TestStatementsBehindOneAnother(t *testing.T) {
	wantProgram(t, `input p/2 "f". output q/3. input r/0 "". output s/0.`, api.Program{
		Inputs:  []api.Input{{Pred: "p", Arity: 2, File: "f"}, {Pred: "r"}},
		Outputs: []api.Output{{Pred: "q", Arity: 3}, {Pred: "s"}},
	}, api.Places{Inputs: []int{0, 27}, Outputs: []int{15, 41}})
	wantProgram(t, "p(a) :- q(b), c != d. r. s(e).", api.Program{Rules: []api.Rule{
		rule(atom("p", constant("a")), positive(atom("q", constant("b"))), unlike(constant("c"), constant("d"))), rule(atom("r")), rule(atom("s", constant("e")))}}, api.Places{Rules: []int{0, 22, 25}})
	wantStop(t, "p(a). q(b", 9)
	wantStop(t, "p(a). q(b) r.", 11)
	wantStop(t, "p(a) q(b).", 5)
	wantStop(t, "p :- q :- r.", 7)
	wantStop(t, "p(a) :- .", 8)
	wantStop(t, "p :- q,.", 7)
	wantStop(t, "p :- q,,r.", 7)
	wantStop(t, "p, q :- r.", 1)
	wantStop(t, ":- q.", 0)
	wantStop(t, "p..", 2)
	wantStop(t, "p/1.", 1)
}

// allTexts are all texts of up to so many of these pieces.
func allTexts(count int, pieces ...string) []string {
	texts := []string{""}
	from := 0
	for range count {
		to := len(texts)
		for _, text := range texts[from:to] {
			for _, piece := range pieces {
				texts = append(texts, text+piece)
			}
		}
		from = to
	}
	return texts
}

func TestAllShortTexts(t *testing.T) {
	for _, text := range allTexts(4, strings.Split("p X 0 ( ) , . / : - ! = \" % \\", " ")...) {
		wantLaws(t, text)
	}
}

func TestAllShortRowsOfTokens(t *testing.T) {
	tokens := []string{"p ", "X ", "1 ", `"a"`, "input ", "output ", "not ", "(", ")", ",", ".", "/", ":-", "!="}
	for _, ahead := range []string{"", "p", "p(a", "p:-", "p:-q(X)", "p:-not q", "p:-X", "p:-a!=", "input p", "input p/1 ", "output p/1"} {
		for _, text := range allTexts(3, tokens...) {
			wantLaws(t, ahead+text)
		}
	}
}

func TestDrawnPrograms(t *testing.T) {
	r := rand.New(rand.NewSource(81))
	for range 600 {
		d := drawProgram(r, r.Intn(6))
		text := d.text.String()
		wantProgram(t, text, d.program, d.places)
		// One byte is another one, is wanting, or is too many.
		if text != "" {
			at := r.Intn(len(text))
			other := []string{".", ",", "(", ")", "a", "X", "0", " ", "\"", ":", "!", "%", "/", "not ", ";", string([]byte{byte(r.Intn(256))})}[r.Intn(16)]
			wantLaws(t, text[:at]+other+text[at+1:])
			wantLaws(t, text[:at]+text[at+1:])
			wantLaws(t, text[:at]+other+text[at:])
		}
	}
}

func TestDrawnTexts(t *testing.T) {
	r := rand.New(rand.NewSource(82))
	for range 20000 {
		wantLaws(t, drawText(r, r.Intn(12)))
	}
}

func TestALongText(t *testing.T) {
	statement := "p(X, \"a\\x0a\") :- not q(X), X != 01. % a remark\n"
	program, at, _, e := Program(times(20000, statement))
	if len(program.Rules) != 20000 || len(at.Rules) != 20000 || e != api.OK {
		t.Fatalf("%d rules, %d places, %v", len(program.Rules), len(at.Rules), e)
	}
	want := rule(atom("p", variable("X"), constant("a\n")), negative(atom("q", variable("X"))), unlike(variable("X"), constant("01")))
	for i, x := range program.Rules {
		if !reflect.DeepEqual(x, want) || at.Rules[i] != i*len(statement) {
			t.Fatalf("the rule %d is %v at %d", i, x, at.Rules[i])
		}
	}
	if p, _, offset, e := Program(times(20000, statement) + "p(a"); p.Rules != nil || offset != 20000*len(statement)+3 || e != api.ErrSyntax {
		t.Errorf("%d, %v", offset, e)
	}
}

func FuzzProgram(f *testing.F) {
	f.Add("input e/2 \"f\\x0a\". output e/16. % x\np(X) :- not q, X != 01.", " r.")
	f.Add("p(1a)", "\"")
	f.Add("p :- not not q.", "input.")
	f.Add(times(65, "a"), ":")
	f.Fuzz(func(t *testing.T, text, more string) {
		if len(text)+len(more) > 3000 {
			return
		}
		wantLaws(t, text)
		wantBoth(t, text, more)
	})
}
