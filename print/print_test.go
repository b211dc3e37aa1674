package print

import (
	"fmt"
	"math"
	"slices"
	"strings"
	"testing"

	"inkling/api"
	"inkling/lex"
)

func wantBare(t *testing.T, wanted bool, texts ...string) {
	t.Helper()
	for _, s := range texts {
		if Bare(s) != wanted {
			t.Errorf("Bare(%q) is %v", s, Bare(s))
		}
		wantPlainText(t, s)
		wantPlainTerms(t, constant(s), variable(s))
	}
}

func wantQuote(t *testing.T, s, wanted string) {
	t.Helper()
	if got := Quote(s); got != wanted {
		t.Errorf("Quote(%q) is %q; want %q", s, got, wanted)
	}
	wantPlainText(t, s)
}

// sixteen are terms of all sorts, and their text.
func sixteen() ([]api.Term, string) {
	terms := []api.Term{variable("X"), constant("a"), constant("1"), constant(""), constant("X"), constant("not"), constant("a b"), constant("\n")}
	text := `X, a, 1, "", "X", "not", "a b", "\n"`
	return append(terms, terms...), text + ", " + text
}

// The chapter's examples, row by row.
func TestExamples(t *testing.T) {
	wantBare(t, true, "a1", "007")
	wantBare(t, false, "not", "", "A", times(65, "1"))
	wantQuote(t, "a\"\x00\né", `"a\"\x00\n\xc3\xa9"`)
	wantTerm(t, variable("X"), "X")
	wantNoTerm(t, variable("x"))
	wantTerm(t, constant("X"), `"X"`)
	wantTerm(t, constant(""), `""`)
	wantAtom(t, atom("p"), "p")
	wantAtom(t, atom("p", variable("X"), constant("1"), constant("input")), `p(X, 1, "input")`)
	wantLiteral(t, negative(atom("p", variable("X"))), "not p(X)")
	wantLiteral(t, unlike(constant("a"), variable("X")), "a != X")
	wantNoLiteral(t, api.Literal{})
	wantNoLiteral(t, api.Literal{Kind: 0, Atom: atom("p")})
	wantNoLiteral(t, api.Literal{Kind: api.Positive, Atom: atom("p"), Left: variable("X")})
	wantRule(t, rule(atom("p", variable("X")), positive(atom("q", variable("X"))), negative(atom("r"))), "p(X) :- q(X), not r.")
	wantRule(t, rule(atom("p")), "p.")
	wantProgram(t, api.Program{
		Inputs:  []api.Input{{Pred: "q", Arity: 1, File: "f.txt"}},
		Outputs: []api.Output{{Pred: "p", Arity: 1}},
		Rules:   []api.Rule{rule(atom("p", variable("X")), positive(atom("q", variable("X"))))},
	}, "input q/1 \"f.txt\".\noutput p/1.\np(X) :- q(X).\n")
	wantProgram(t, api.Program{}, "")
	wantNoAtom(t, atom("not"))
	wantNoAtom(t, atom("p", make([]api.Term, 17)...))
	wantNoProgram(t, api.Program{Inputs: []api.Input{{Pred: "p", Arity: 17, File: "f"}}})
}

// P9.1

func TestBareOfLengths(t *testing.T) {
	wantBare(t, true, "a", "z", "0", "9")
	wantBare(t, true, times(64, "a"), times(64, "7"), "a"+times(63, "_"), "a"+times(63, "Z"), "a"+times(63, "0"), times(64, "0"))
	wantBare(t, false, times(65, "a"), times(65, "7"), "a"+times(64, "_"), times(1024, "a"), times(1024, "0"), times(1025, "a"), times(1<<20, "1"))
	wantBare(t, false, "A", "_", " ", "-", "\x00", "\xff", times(64, "A"), times(65, "A"), times(64, " "), times(63, "a")+" ", times(63, "a")+"-", times(64, "a")+"\n", times(63, "1")+"a", "1"+times(63, "a"))
}

func TestBareOfReservedWords(t *testing.T) {
	for _, word := range []string{"input", "output", "not"} {
		wantBare(t, false, word, word+" ", " "+word, word+"\n", word+"-", strings.ToUpper(word))
		wantBare(t, true, word+"s", word+"1", word+"_", word+"A", word+word, word+times(64-len(word), "s"), word[:len(word)-1])
		wantBare(t, false, word+times(65-len(word), "s"))
	}
}

func TestBareOfOtherTexts(t *testing.T) {
	wantBare(t, true, "a_B9", "aA", "x", "00", "10")
	wantBare(t, false, "_a", "1a", "1_", "1A", "-1", "+1", "1.0", "a b", "a.", "a-b", "a'", "é", "aé", "a\xc3", "1\xff", "a\n", "1\n", "\na", "a\x00", "١", `"a"`, "a%", "p(a)", "X", "Xa")
}

// Every byte alone, and behind what is bare without it.
func TestBareOfEveryByte(t *testing.T) {
	for b := range 256 {
		one := string([]byte{byte(b)})
		small := b >= 'a' && b <= 'z'
		digit := b >= '0' && b <= '9'
		wantBare(t, small || digit, one)
		wantBare(t, small || digit || b >= 'A' && b <= 'Z' || b == '_', "a"+one, "no"+one+"t")
		wantBare(t, digit, "1"+one, "1"+one+"1")
		wantBare(t, small, one+"1"+"a", one+"_")
	}
}

// All texts of up to three of some bytes.
func TestBareAndQuoteOfAllShortTexts(t *testing.T) {
	texts := []string{""}
	for i := 0; len(texts[i]) < 3; i++ {
		for _, b := range []byte("anotZ09_ \"\\\n\t\r%.\x00\x7f\x80\xff") {
			texts = append(texts, texts[i]+string([]byte{b}))
		}
	}
	for _, s := range texts {
		wantPlainText(t, s)
		wantPlainTerms(t, constant(s), variable(s))
	}
}

func TestQuoteOfEveryByte(t *testing.T) {
	var all []byte
	for b := range 256 {
		one := string([]byte{byte(b)})
		var piece string
		switch {
		case b == 34:
			piece = `\"`
		case b == 92:
			piece = `\\`
		case b == 10:
			piece = `\n`
		case b == 9:
			piece = `\t`
		case b < 32 || b > 126:
			digits := "0123456789abcdef"
			piece = `\x` + digits[b/16:b/16+1] + digits[b%16:b%16+1]
		default:
			piece = one
		}
		wantQuote(t, one, `"`+piece+`"`)
		wantQuote(t, "a"+one+one+"\n", `"a`+piece+piece+`\n"`)
		wantTerm(t, constant(one+" "), `"`+piece+` "`)
		wantProgram(t, api.Program{Inputs: []api.Input{{Pred: "p", File: one}}}, `input p/0 "`+piece+"\".\n")
		all = append(all, byte(b))
	}
	wantPlainText(t, string(all))
	wantLaws(t, ofTerm(constant(string(all))))
}

func TestQuote(t *testing.T) {
	wantQuote(t, "", `""`)
	wantQuote(t, "a", `"a"`)
	wantQuote(t, "12", `"12"`)
	wantQuote(t, "X", `"X"`)
	wantQuote(t, "not", `"not"`)
	wantQuote(t, `\n`, `"\\n"`)
	wantQuote(t, `\x41`, `"\\x41"`)
	wantQuote(t, "\r\x1f \x7e\x7f\x80\xff", `"\x0d\x1f ~\x7f\x80\xff"`)
	wantQuote(t, "% p(X) :- q.", `"% p(X) :- q."`)
	wantQuote(t, "\"\"", `"\"\""`)
}

// Quote has no bound, and no place in a long text is unlike another one.
func TestQuoteOfLongTexts(t *testing.T) {
	for s, piece := range map[string]string{"a": "a", " ": " ", `"`: `\"`, `\`: `\\`, "\n": `\n`, "\t": `\t`, "\x00": `\x00`, "\xff": `\xff`, "é": `\xc3\xa9`} {
		for _, count := range []int{63, 64, 65, 511, 512, 513, 1023, 1024, 1025, 1026, 2047, 2048, 2049, 3072, 5000, 100000} {
			wantQuote(t, times(count, s), `"`+times(count, piece)+`"`)
		}
	}
	for at := 1000; at < 1050; at++ {
		wantQuote(t, times(at, "a")+"\"b\n"+times(2000, "c"), `"`+times(at, "a")+`\"b\n`+times(2000, "c")+`"`)
	}
}

// A constant's quoted text is a string that stands for it.
func TestQuotedTextsAreStrings(t *testing.T) {
	for _, s := range []string{"", "a", "not", "\"\\\n\t", "\x00\x7f\xff", "é % p.", times(1024, "a"), times(1024, "\xff"), times(256, "\"\\\n\t")} {
		list, _, _, e := lex.Tokens(Quote(s))
		if e != api.OK || !slices.Equal(list, []api.Token{{Kind: api.TokString, Text: s, End: len(Quote(s))}}) {
			t.Errorf("Quote(%q) is %q, which is %v, %v", s, Quote(s), list, e)
		}
	}
}

// P9.2

func TestVariables(t *testing.T) {
	for _, s := range []string{"X", "A", "Z", "Xa", "X_", "X1", "NOT", "Not", "Input", times(64, "X"), "X" + times(63, "_")} {
		wantTerm(t, variable(s), s)
	}
	for _, s := range []string{"", "x", "not", "input", "output", "_", "_X", "1", "1X", "X ", " X", "X\n", "X-", "Xé", "É", "X\x00", `"X"`, "X,Y", times(65, "X"), times(1025, "X"), times(1<<20, "X")} {
		wantNoTerm(t, variable(s))
	}
}

func TestConstants(t *testing.T) {
	for _, s := range []string{"a", "a1", "a_B9", "0", "007", "12", "nota", "inputs", "output_", times(64, "a"), times(64, "9")} {
		wantTerm(t, constant(s), s)
	}
	for s, wanted := range map[string]string{
		"": `""`, "X": `"X"`, "Xa_1": `"Xa_1"`, "_": `"_"`, "not": `"not"`, "input": `"input"`, "output": `"output"`, "a b": `"a b"`, "-1": `"-1"`, "1a": `"1a"`,
		"a\n": `"a\n"`, "\t": `"\t"`, `"`: `"\""`, `\`: `"\\"`, "é": `"\xc3\xa9"`, "\x00": `"\x00"`, "a, b": `"a, b"`, "p(a).": `"p(a)."`, "% x": `"% x"`,
	} {
		wantTerm(t, constant(s), wanted)
	}
	for _, s := range []string{"a", "0"} {
		wantTerm(t, constant(times(65, s)), `"`+times(65, s)+`"`)
	}
	for s, piece := range map[string]string{"a": "a", "0": "0", "X": "X", "\"": `\"`, "\n": `\n`, "\x00": `\x00`, "\xff": `\xff`} {
		wantTerm(t, constant(times(1023, s)), `"`+times(1023, piece)+`"`)
		wantTerm(t, constant(times(1024, s)), `"`+times(1024, piece)+`"`)
		wantNoTerm(t, constant(times(1025, s)))
	}
	// Bytes count, not runes.
	wantTerm(t, constant(times(512, "é")), `"`+times(512, `\xc3\xa9`)+`"`)
	wantNoTerm(t, constant(times(512, "é")+"a"))
	wantNoTerm(t, constant(times(1<<20, "a")))
}

// badNames are no predicates' names.
var badNames = []string{"", "not", "input", "output", "X", "P", "Xa", "1", "007", "1p", "_", "_p", " ", "p ", " p", "p\n", "p-q", "p.", "p(", "p(a)", "é", "pé", "p\x00", "p\xff", `"p"`, "p/1", times(65, "p"), times(1025, "p"), times(1<<16, "p")}

func TestPredicates(t *testing.T) {
	for _, s := range []string{"p", "z", "pQ_1", "nota", "not_", "inputs", "output1", "inpu", times(64, "p"), "p" + times(63, "_"), "not" + times(61, "0")} {
		wantAtom(t, atom(s), s)
		wantAtom(t, atom(s, variable("X")), s+"(X)")
		wantProgram(t, api.Program{Inputs: []api.Input{{Pred: s}}}, "input "+s+"/0 \"\".\n")
		wantProgram(t, api.Program{Outputs: []api.Output{{Pred: s}}}, "output "+s+"/0.\n")
	}
	for _, s := range badNames {
		wantNoAtom(t, atom(s))
		wantNoAtom(t, atom(s, variable("X")))
		wantNoProgram(t, api.Program{Inputs: []api.Input{{Pred: s, File: "f"}}})
		wantNoProgram(t, api.Program{Outputs: []api.Output{{Pred: s}}})
	}
}

func TestNumbersOfTerms(t *testing.T) {
	terms, text := sixteen()
	wantAtom(t, atom("p", terms...), "p("+text+")")
	for count := 1; count <= 16; count++ {
		wantAtom(t, atom("p", slices.Repeat([]api.Term{variable("X")}, count)...), "p(X"+times(count-1, ", X")+")")
	}
	for _, count := range []int{17, 18, 256, 100000} {
		wantNoAtom(t, atom("p", slices.Repeat([]api.Term{variable("X")}, count)...))
		wantNoAtom(t, atom("p", make([]api.Term, count)...))
	}
	wantAtom(t, atom("p", make([]api.Term, 16)...), `p(""`+times(15, `, ""`)+")")
	wantAtom(t, api.Atom{Pred: "p", Args: nil}, "p")
	wantAtom(t, api.Atom{Pred: "p", Args: []api.Term{}}, "p")
	wantNoAtom(t, api.Atom{})
}

// One term among sixteen that is not in form.
func TestOneBadTerm(t *testing.T) {
	for at := range 16 {
		for _, bad := range []api.Term{variable(""), variable("x"), constant(times(1025, "a"))} {
			terms, _ := sixteen()
			terms[at] = bad
			wantNoAtom(t, atom("p", terms...))
		}
	}
}

func TestLiterals(t *testing.T) {
	wantLiteral(t, positive(atom("q")), "q")
	wantLiteral(t, negative(atom("q")), "not q")
	wantLiteral(t, negative(atom("nota", constant("not"))), `not nota("not")`)
	wantLiteral(t, unlike(variable("X"), variable("X")), "X != X")
	wantLiteral(t, unlike(constant(""), constant("")), `"" != ""`)
	wantLiteral(t, unlike(constant("nota"), constant("!=")), `nota != "!="`)
	wantLiteral(t, api.Literal{Kind: api.Unlike}, `"" != ""`)
	wantLiteral(t, api.Literal{Kind: api.Unlike, Atom: api.Atom{Args: []api.Term{}}, Left: variable("X")}, `X != ""`)
}

func TestKindsThatAreNone(t *testing.T) {
	for _, kind := range []api.LitKind{0, 4, 5, -1, -2, -3, 255, 256, 257, 1 << 32, 1<<32 + 1, math.MaxInt, math.MinInt} {
		wantNoLiteral(t, api.Literal{Kind: kind})
		wantNoLiteral(t, api.Literal{Kind: kind, Atom: atom("q")})
		wantNoLiteral(t, api.Literal{Kind: kind, Atom: atom("q", variable("X"))})
		wantNoLiteral(t, api.Literal{Kind: kind, Left: variable("X"), Right: constant("a")})
		wantNoLiteral(t, api.Literal{Kind: kind, Atom: atom("q"), Left: variable("X"), Right: constant("a")})
	}
}

// What a kind does not name, and is not zero.
func TestPartsThatShouldBeZero(t *testing.T) {
	for _, term := range []api.Term{variable("X"), constant("a"), constant("1"), constant(" "), variable(""), variable("x"), constant(times(1025, "a"))} {
		for _, kind := range []api.LitKind{api.Positive, api.Negative} {
			for _, a := range []api.Atom{atom("q"), atom("q", variable("X")), atom("")} {
				wantNoLiteral(t, api.Literal{Kind: kind, Atom: a, Left: term})
				wantNoLiteral(t, api.Literal{Kind: kind, Atom: a, Right: term})
				wantNoLiteral(t, api.Literal{Kind: kind, Atom: a, Left: term, Right: term})
			}
		}
		wantNoLiteral(t, api.Literal{Kind: api.Unlike, Atom: api.Atom{Args: []api.Term{term}}, Left: variable("X"), Right: constant("a")})
	}
	for _, a := range []api.Atom{atom("q"), atom("q", variable("X")), atom("", variable("X")), atom("", api.Term{}), atom("not"), atom("X"), atom(" ")} {
		wantNoLiteral(t, api.Literal{Kind: api.Unlike, Atom: a, Left: variable("X"), Right: constant("a")})
		wantNoLiteral(t, api.Literal{Kind: api.Unlike, Atom: a})
	}
	wantNoLiteral(t, positive(api.Atom{}))
	wantNoLiteral(t, negative(api.Atom{}))
}

func TestRules(t *testing.T) {
	wantRule(t, rule(atom("p", variable("X"))), "p(X).")
	wantRule(t, rule(atom("p"), positive(atom("p"))), "p :- p.")
	wantRule(t, rule(atom("p", variable("X"), constant("a b")), negative(atom("q")), unlike(variable("X"), constant("1")), positive(atom("r", variable("X")))), `p(X, "a b") :- not q, X != 1, r(X).`)
	wantRule(t, api.Rule{Head: atom("p"), Body: []api.Literal{}}, "p.")
	wantRule(t, api.Rule{Head: api.Atom{Pred: "p", Args: []api.Term{}}, Body: []api.Literal{positive(api.Atom{Pred: "q", Args: []api.Term{}})}}, "p :- q.")
	wantNoRule(t, api.Rule{})
	wantNoRule(t, rule(api.Atom{}, positive(atom("q"))))
}

func TestNumbersOfLiterals(t *testing.T) {
	for _, x := range []struct {
		literal api.Literal
		text    string
	}{{positive(atom("q")), "q"}, {negative(atom("q", variable("X"))), "not q(X)"}, {unlike(variable("X"), constant("")), `X != ""`}} {
		for _, count := range []int{1, 2, 255, 256} {
			wantRule(t, rule(atom("p"), slices.Repeat([]api.Literal{x.literal}, count)...), "p :- "+x.text+times(count-1, ", "+x.text)+".")
		}
		for _, count := range []int{257, 258, 512, 10000} {
			wantNoRule(t, rule(atom("p"), slices.Repeat([]api.Literal{x.literal}, count)...))
		}
	}
	for at := range 256 {
		body := slices.Repeat([]api.Literal{positive(atom("q"))}, 256)
		body[at].Kind = 0
		if text, e := Rule(rule(atom("p"), body...)); text != "" || e != api.ErrArg {
			t.Errorf("with a bad literal %d: %q, %v", at, text, e)
		}
	}
}

func TestInputsAndOutputs(t *testing.T) {
	for arity := range 17 {
		wantProgram(t, api.Program{Inputs: []api.Input{{Pred: "p", Arity: arity, File: "a b"}}}, fmt.Sprint("input p/", arity, " \"a b\".\n"))
		wantProgram(t, api.Program{Outputs: []api.Output{{Pred: "p", Arity: arity}}}, fmt.Sprint("output p/", arity, ".\n"))
	}
	for _, arity := range []int{-1, -2, -16, -17, 17, 18, 160, 256, 1 << 32, 1<<32 + 1, math.MaxInt, math.MinInt} {
		wantNoProgram(t, api.Program{Inputs: []api.Input{{Pred: "p", Arity: arity, File: "f"}}})
		wantNoProgram(t, api.Program{Outputs: []api.Output{{Pred: "p", Arity: arity}}})
	}
}

// A file's name is quoted, bare or not.
func TestFilesNames(t *testing.T) {
	for s, piece := range map[string]string{"a": "a", "0": "0", "X": "X", ".": ".", "/": "/", " ": " ", `"`: `\"`, `\`: `\\`, "\n": `\n`, "\x00": `\x00`, "\xff": `\xff`} {
		for _, count := range []int{0, 1, 64, 65, 1023, 1024} {
			wantProgram(t, api.Program{Inputs: []api.Input{{Pred: "p", Arity: 1, File: times(count, s)}}}, `input p/1 "`+times(count, piece)+"\".\n")
		}
		wantNoProgram(t, api.Program{Inputs: []api.Input{{Pred: "p", Arity: 1, File: times(1025, s)}}})
		wantNoProgram(t, api.Program{Inputs: []api.Input{{Pred: "p", Arity: 1, File: times(5000, s)}}})
	}
	for _, s := range []string{"not", "input", "f.txt", "nota"} {
		wantProgram(t, api.Program{Inputs: []api.Input{{Pred: "p", Arity: 1, File: s}}}, `input p/1 "`+s+"\".\n")
	}
}

func TestPrograms(t *testing.T) {
	inputs := []api.Input{{Pred: "e", Arity: 2, File: "f"}, {Pred: "e", Arity: 2, File: "g"}, {Pred: "e", Arity: 2, File: "f"}}
	outputs := []api.Output{{Pred: "t", Arity: 2}, {Pred: "e", Arity: 16}, {Pred: "t", Arity: 2}}
	rules := []api.Rule{rule(atom("t", variable("X")), positive(atom("e", variable("X")))), rule(atom("a")), rule(atom("a"))}
	const ofInputs = "input e/2 \"f\".\ninput e/2 \"g\".\ninput e/2 \"f\".\n"
	const ofOutputs = "output t/2.\noutput e/16.\noutput t/2.\n"
	const ofRules = "t(X) :- e(X).\na.\na.\n"
	wantProgram(t, api.Program{}, "")
	wantProgram(t, api.Program{Inputs: []api.Input{}, Outputs: []api.Output{}, Rules: []api.Rule{}}, "")
	wantProgram(t, api.Program{Inputs: inputs}, ofInputs)
	wantProgram(t, api.Program{Outputs: outputs}, ofOutputs)
	wantProgram(t, api.Program{Rules: rules}, ofRules)
	wantProgram(t, api.Program{Inputs: inputs, Outputs: []api.Output{}, Rules: nil}, ofInputs)
	wantProgram(t, api.Program{Inputs: inputs, Outputs: outputs}, ofInputs+ofOutputs)
	wantProgram(t, api.Program{Inputs: inputs, Rules: rules}, ofInputs+ofRules)
	wantProgram(t, api.Program{Outputs: outputs, Rules: rules}, ofOutputs+ofRules)
	wantProgram(t, api.Program{Inputs: inputs, Outputs: outputs, Rules: rules}, ofInputs+ofOutputs+ofRules)
}

// A program need not be good: what it says is not asked.
func TestProgramsThatAreNotGood(t *testing.T) {
	wantProgram(t, api.Program{
		Inputs:  []api.Input{{Pred: "p", Arity: 3, File: ""}},
		Outputs: []api.Output{{Pred: "p", Arity: 0}},
		Rules:   []api.Rule{rule(atom("p", variable("X")), negative(atom("p", variable("Y")))), rule(atom("p"), negative(atom("p"))), rule(atom("q", variable("X")))},
	}, "input p/3 \"\".\noutput p/0.\np(X) :- not p(Y).\np :- not p.\nq(X).\n")
}

// One statement among many that is not in form, at each place.
func TestOneBadStatement(t *testing.T) {
	for at := range 5 {
		inputs := slices.Repeat([]api.Input{{Pred: "e", Arity: 2, File: "f"}}, 5)
		outputs := slices.Repeat([]api.Output{{Pred: "t", Arity: 2}}, 5)
		rules := slices.Repeat([]api.Rule{rule(atom("t", variable("X")), positive(atom("e", variable("X"))))}, 5)
		wantLaws(t, api.Program{Inputs: inputs, Outputs: outputs, Rules: rules})
		for _, bad := range []api.Input{{}, {Pred: "X", Arity: 2, File: "f"}, {Pred: "e", Arity: 17, File: "f"}, {Pred: "e", Arity: -1, File: "f"}, {Pred: "e", Arity: 2, File: times(1025, "f")}} {
			wrong := slices.Clone(inputs)
			wrong[at] = bad
			wantNoProgram(t, api.Program{Inputs: wrong, Outputs: outputs, Rules: rules})
			wantNoProgram(t, api.Program{Inputs: wrong})
		}
		for _, bad := range []api.Output{{}, {Pred: "not", Arity: 2}, {Pred: "t", Arity: 17}, {Pred: "t", Arity: -1}} {
			wrong := slices.Clone(outputs)
			wrong[at] = bad
			wantNoProgram(t, api.Program{Inputs: inputs, Outputs: wrong, Rules: rules})
			wantNoProgram(t, api.Program{Outputs: wrong})
		}
		for _, bad := range []api.Rule{{}, rule(atom("p", variable("x"))), rule(atom("p"), api.Literal{}), rule(atom("p"), make([]api.Literal, 257)...)} {
			wrong := slices.Clone(rules)
			wrong[at] = bad
			wantNoProgram(t, api.Program{Inputs: inputs, Outputs: outputs, Rules: wrong})
			wantNoProgram(t, api.Program{Rules: wrong})
		}
	}
}

func TestALongProgram(t *testing.T) {
	var p api.Program
	var wanted strings.Builder
	for i := range 50000 {
		name := constant(fmt.Sprint("a ", i))
		p.Rules = append(p.Rules, rule(atom("p", name, variable("X")), positive(atom("q", variable("X")))))
		fmt.Fprintf(&wanted, "p(\"a %d\", X) :- q(X).\n", i)
	}
	if text, e := Program(p); text != wanted.String() || e != api.OK {
		t.Errorf("%d bytes, %v; want %d", len(text), e, wanted.Len())
	}
	p.Rules[len(p.Rules)-1].Body[0].Kind = 4
	if text, e := Program(p); text != "" || e != api.ErrArg {
		t.Errorf("%d bytes, %v; want ErrArg", len(text), e)
	}
}
