package lex

import (
	"iter"
	"math/rand"
	"slices"
	"strings"
	"testing"
	"unsafe"

	"inkling/api"
)

func letters(count int, letter string) string { return strings.Repeat(letter, count) }

// open are what may be open at a place.
func open(kind api.TokenKind, at, end int) api.Token { return api.Token{Kind: kind, At: at, End: end} }

// wantTokens holds Tokens against all that is wanted, the tokens being told by their kinds and texts.
func wantTokens(t testing.TB, text, tokens string, open api.Token, far int, e api.Errno) {
	t.Helper()
	got := answerOf(text)
	if say(got.list) != tokens || got.open != open || got.far != far || got.e != e {
		t.Errorf("Tokens(%q) is %q; want %q; open %v; %d; %v", text, got, tokens, open, far, e)
	}
	wantLaws(t, text)
}

func wantRow(t testing.TB, text, tokens string) {
	t.Helper()
	wantTokens(t, text, tokens, api.Token{}, len(text), api.OK)
}

// wantStop is of a text in which nothing is open where it stops.
func wantStop(t testing.TB, text, tokens string, far int) {
	t.Helper()
	wantTokens(t, text, tokens, api.Token{}, far, api.ErrSyntax)
}

// wantOpen is of a text in which something is open from at on.
func wantOpen(t testing.TB, text, tokens string, kind api.TokenKind, at, far int) {
	t.Helper()
	wantTokens(t, text, tokens, open(kind, at, far), far, api.ErrSyntax)
}

// wantPlain holds Tokens against the document's words.
func wantPlain(t testing.TB, text string) {
	t.Helper()
	if got, wanted := answerOf(text).String(), plainAnswer(text).String(); got != wanted {
		t.Errorf("Tokens(%q) is\n%q; want\n%q", text, got, wanted)
	}
}

// wantLaws holds what is promised of every text: that Each tells the tokens, and what P7.6 says.
func wantLaws(t testing.TB, text string) {
	t.Helper()
	a := answerOf(text)
	if told := slices.Collect(Each(text)); !slices.Equal(told, a.list) {
		t.Errorf("Each(%q) tells %s; Tokens %s", text, sayPlaces(told), sayPlaces(a.list))
	}
	end := 0
	for _, x := range a.list {
		if x.At < end || x.End <= x.At || x.End > a.far {
			t.Errorf("%q: a token at %d to %d behind %d, ahead of %d", text, x.At, x.End, end, a.far)
			return
		}
		alone := answerOf(text[x.At:x.End])
		moved := api.Token{Kind: x.Kind, Text: x.Text, End: x.End - x.At}
		if alone.e != api.OK || !slices.Equal(alone.list, []api.Token{moved}) {
			t.Errorf("%q: the token %v alone is %v", text, x, alone)
		}
		wantBlank(t, text, end, x.At)
		end = x.End
	}
	if a.open.Kind == 0 {
		wantBlank(t, text, end, a.far)
	} else {
		wantBlank(t, text, end, a.open.At)
	}
	if (a.e == api.OK) != (a.far == len(text) && a.open == api.Token{}) || a.e != api.OK && a.e != api.ErrSyntax {
		t.Errorf("Tokens(%q) is %v", text, a)
	}
	// The longest beginning is its own: nothing behind it is looked at.
	cut := answerOf(text[:a.far])
	if !slices.Equal(cut.list, a.list) || cut.open != a.open || cut.far != a.far {
		t.Errorf("Tokens(%q) is %v; of its first %d bytes %v", text, a, a.far, cut)
	}
}

// wantBlank: a stretch of a text has no token, and goes on to its end.
func wantBlank(t testing.TB, text string, from, to int) {
	t.Helper()
	if a := answerOf(text[from:to]); len(a.list) > 0 || a.e != api.OK {
		t.Errorf("%q: from %d to %d stands more than blanks: %v", text, from, to, a)
	}
}

// The chapter's examples.
func TestExamples(t *testing.T) {
	wantRow(t, "", "")
	wantRow(t, " \t\r\n ", "")
	wantRow(t, "% x", "")
	wantRow(t, "p(X):-not q.", "name p, (, variable X, ), :-, not, name q, .")
	wantRow(t, `input e/2 "f".`, "input, name e, /, number 2, string f, .")
	wantRow(t, "01 a1 Ab inputs", "number 01, name a1, variable Ab, name inputs")
	wantRow(t, `a"b"c`, "name a, string b, name c")
	wantStop(t, "p(1a)", "name p, (, number 1", 3)
	wantOpen(t, "p :x", "name p", api.TokRule, 2, 3)
	wantOpen(t, "p :", "name p", api.TokRule, 2, 3)
	wantOpen(t, "a!", "name a", api.TokUnlike, 1, 2)
	wantOpen(t, "a! =", "name a", api.TokUnlike, 1, 2)
	wantOpen(t, `"a\x4g`, "", api.TokString, 0, 5)
	wantOpen(t, `"a\x4`, "", api.TokString, 0, 5)
	wantOpen(t, "\"a\n", "", api.TokString, 0, 2)
	wantOpen(t, `"`+letters(1024, "a")+`a"`, "", api.TokString, 0, 1025)
	wantOpen(t, `"`+letters(1024, "a")+`\"`, "", api.TokString, 0, 1025)
	wantStop(t, letters(65, "a")+".", "name "+letters(64, "a"), 64)
	wantStop(t, "a;b", "name a", 1)
}

// P7.1

// The places of all tokens, counted by hand.
func TestPlaces(t *testing.T) {
	got := answerOf("input e/2\t\"\\x0a\".%:-\n :- X1!=00 (not)").String()
	wanted := "input at 0 to 5, name e at 6 to 7, / at 7 to 8, number 2 at 8 to 9, string \n at 10 to 16, . at 16 to 17, :- at 22 to 24, variable X1 at 25 to 27, != at 27 to 29, number 00 at 29 to 31, ( at 32 to 33, not at 33 to 36, ) at 36 to 37; open  at 0 to 0; 37; error 0"
	if got != wanted {
		t.Errorf("Tokens is\n%s; want\n%s", got, wanted)
	}
}

func TestEveryKind(t *testing.T) {
	list, _, _, e := Tokens(`a X 0 "" input output not ( ) , . / :- !=`)
	if len(list) != 14 || e != api.OK {
		t.Fatalf("Tokens is %v, %v", list, e)
	}
	for i, x := range list {
		if x.Kind != api.TokenKind(i+1) || i > 2 && x.Text != "" {
			t.Errorf("the token %d is %v", i, x)
		}
	}
}

func TestBlanks(t *testing.T) {
	for _, text := range []string{"", " ", "\t", "\n", "\r", "\r\n", "  \t\t\n\n\r\r", "%", "%\n", "%%", "% a remark", "% a remark\n", " % p(X) :- \"\n % \xff\x00\r;\n", letters(5000, "%;\n ")} {
		wantRow(t, text, "")
		wantRow(t, "p"+text, "name p")
		wantRow(t, "."+text, ".")
		wantRow(t, text+"\np", "name p")
		wantRow(t, "\"p\""+text+"\nX", "string p, variable X")
	}
	// What is blank stands between two words, and what is not does not.
	for b := range 256 {
		text := "a" + string([]byte{byte(b)}) + "B"
		switch b {
		case 32, 9, 10, 13:
			wantRow(t, text, "name a, variable B")
		default:
			if a := answerOf(text); say(a.list) == "name a, variable B" {
				t.Errorf("Tokens(%q) is %v", text, a)
			}
		}
	}
}

func TestRemarks(t *testing.T) {
	wantRow(t, "a%b", "name a")
	wantRow(t, "a%b\n", "name a")
	wantRow(t, "a%b\nc", "name a, name c")
	wantRow(t, "a%b\r\nc", "name a, name c")
	wantRow(t, "a%b\rc", "name a")
	wantRow(t, "1%\n2", "number 1, number 2")
	wantRow(t, "a%\"\n\"%\"", "name a, string %")
	wantRow(t, ":-%-\n!=%=", ":-, !=")
	wantOpen(t, ":%-", "", api.TokRule, 0, 1)
	wantOpen(t, "!%=", "", api.TokUnlike, 0, 1)
	for b := range 256 {
		wantRow(t, "a % "+string([]byte{byte(b)}), "name a")
	}
	wantStop(t, "% x\n;", "", 4)
}

// nowhere are the bytes with which no token and no blank begins.
func nowhere() []string {
	var l []string
	for b := range 256 {
		one := string([]byte{byte(b)})
		if !strings.Contains("abcdefghijklmnopqrstuvwxyzABCDEFGHIJKLMNOPQRSTUVWXYZ0123456789 \t\n\r%\"(),./:!", one) {
			l = append(l, one)
		}
	}
	return l
}

func TestBytesThatStandNowhere(t *testing.T) {
	for _, b := range nowhere() {
		wantStop(t, b, "", 0)
		wantStop(t, b+"a", "", 0)
		wantStop(t, " \n"+b, "", 2)
		wantStop(t, "% x\n"+b+"a", "", 4)
		wantStop(t, "a "+b+" b", "name a", 2)
		wantStop(t, "("+b, "(", 1)
		wantStop(t, ":-"+b, ":-", 2)
		wantStop(t, `"a"`+b, "string a", 3)
		if b == "_" {
			wantRow(t, "a"+b, "name a_")
			wantRow(t, "A"+b, "variable A_")
		} else {
			wantStop(t, "a"+b, "name a", 1)
			wantStop(t, "A"+b+"B", "variable A", 1)
			wantStop(t, "not"+b, "not", 3)
		}
		wantStop(t, "1"+b, "number 1", 1)
		if b != "-" {
			wantOpen(t, ":"+b, "", api.TokRule, 0, 1)
		}
		if b != "=" {
			wantOpen(t, "!"+b, "", api.TokUnlike, 0, 1)
		}
	}
	if len(nowhere()) != 256-62-13 {
		t.Errorf("%d bytes stand nowhere", len(nowhere()))
	}
}

func TestWordsWithNoBlankBetween(t *testing.T) {
	wantStop(t, "1a", "number 1", 1)
	wantStop(t, "1A", "number 1", 1)
	wantStop(t, "1_", "number 1", 1)
	wantStop(t, "12not", "number 12", 2)
	wantStop(t, "not 1input.", "not, number 1", 5)
	wantRow(t, "a1", "name a1")
	wantRow(t, "aA", "name aA")
	wantRow(t, "A1a_", "variable A1a_")
	wantRow(t, `a"b"`, "name a, string b")
	wantRow(t, `A"b"1`, "variable A, string b, number 1")
	wantRow(t, `1"b"not"c"`, "number 1, string b, not, string c")
	wantRow(t, `"a""b"`, "string a, string b")
	wantRow(t, "a(B)1/2.input,output", "name a, (, variable B, ), number 1, /, number 2, ., input, ,, output")
}

func TestReservedWords(t *testing.T) {
	wantRow(t, "input output not", "input, output, not")
	wantRow(t, "inputs outputs nota not1 not_ notX input_output", "name inputs, name outputs, name nota, name not1, name not_, name notX, name input_output")
	wantRow(t, "inpu outpu no Not NOT Input inpuT", "name inpu, name outpu, name no, variable Not, variable NOT, variable Input, name inpuT")
	wantRow(t, "notinput not(not)not", "name notinput, not, (, not, ), not")
	wantRow(t, `"not""input"`, "string not, string input")
	wantStop(t, "not;", "not", 3)
	wantStop(t, "1not", "number 1", 1)
}

func TestLongWords(t *testing.T) {
	for kind, first := range map[string]string{"name": "a", "variable": "A", "number": "1"} {
		for _, more := range []string{"0", "9"} {
			atLimit := first + letters(63, more)
			wantRow(t, first+letters(62, more), kind+" "+first+letters(62, more))
			wantRow(t, atLimit, kind+" "+atLimit)
			wantRow(t, atLimit+" "+atLimit, kind+" "+atLimit+", "+kind+" "+atLimit)
			wantRow(t, atLimit+"."+atLimit, kind+" "+atLimit+", ., "+kind+" "+atLimit)
			wantRow(t, atLimit+"%\n"+atLimit, kind+" "+atLimit+", "+kind+" "+atLimit)
			for _, behind := range []string{"a", "z", "A", "Z", "0", "9", "_", ";", "é"} {
				wantStop(t, atLimit+behind, kind+" "+atLimit, 64)
				wantStop(t, "( "+atLimit+behind+" b", "(, "+kind+" "+atLimit, 66)
			}
			wantStop(t, first+letters(4000, more), kind+" "+atLimit, 64)
		}
	}
	for _, reserved := range []string{"input", "output", "not"} {
		atLimit := reserved + letters(64-len(reserved), "s")
		wantRow(t, atLimit, "name "+atLimit)
		wantStop(t, atLimit+"s", "name "+atLimit, 64)
	}
	wantStop(t, letters(64, "1")+"not", "number "+letters(64, "1"), 64)
}

func TestSignsOfTwoBytes(t *testing.T) {
	for _, x := range []struct {
		kind          api.TokenKind
		sign          string
		first, second string
	}{{api.TokRule, ":-", ":", "-"}, {api.TokUnlike, "!=", "!", "="}} {
		wantRow(t, x.sign, x.sign)
		wantRow(t, "a"+x.sign+"b", "name a, "+x.sign+", name b")
		wantRow(t, x.sign+x.sign, x.sign+", "+x.sign)
		wantOpen(t, x.first, "", x.kind, 0, 1)
		wantOpen(t, " "+x.first, "", x.kind, 1, 2)
		wantOpen(t, x.sign+x.first, x.sign, x.kind, 2, 3)
		wantStop(t, x.second, "", 0)
		wantStop(t, x.sign+x.second, x.sign, 2)
		for b := range 256 {
			one := string([]byte{byte(b)})
			if one != x.second {
				wantOpen(t, "a"+x.first+one, "name a", x.kind, 1, 2)
				wantOpen(t, "a "+x.first+one+x.second, "name a", x.kind, 2, 3)
			}
		}
	}
}

func TestPiecesOfStrings(t *testing.T) {
	wantRow(t, `""`, "string ")
	wantRow(t, `"a b"`, "string a b")
	wantRow(t, `"\"\\\n\t"`, "string \"\\\n\t")
	wantRow(t, `"\x00\xff\x0a\xa0\x22\x41"`, "string \x00\xff\n\xa0\"A")
	wantRow(t, `"\\x41\\n"`, `string \x41\n`)
	wantRow(t, `"%"`, "string %")
	wantRow(t, `"(),./:-!=not X 1"`, "string (),./:-!=not X 1")
	for b := range 256 {
		one := string([]byte{byte(b)})
		switch {
		case one == `"`:
			wantRow(t, `"a"`, "string a")
		case one == `\`:
			wantOpen(t, `"a\`, "", api.TokString, 0, 3)
		case b >= 32 && b <= 126:
			wantRow(t, `"`+one+`"`, "string "+one)
		default:
			wantOpen(t, `"a`+one+`"`, "", api.TokString, 0, 2)
		}
		wantEscape(t, one)
		wantDigits(t, one)
	}
}

// wantEscape is of one byte behind a backslash.
func wantEscape(t *testing.T, one string) {
	t.Helper()
	switch one {
	case `"`, `\`:
		wantRow(t, `"a\`+one+`"`, "string a"+one)
	case "n":
		wantRow(t, `"a\n"`, "string a\n")
	case "t":
		wantRow(t, `"a\t"`, "string a\t")
	case "x":
		wantOpen(t, `"a\x"`, "", api.TokString, 0, 4)
	default:
		wantOpen(t, `"a\`+one+`"`, "", api.TokString, 0, 3)
	}
}

// wantDigits is of one byte as each of the two digits.
func wantDigits(t *testing.T, one string) {
	t.Helper()
	value := strings.Index("0123456789abcdef", one)
	if value < 0 {
		wantOpen(t, `.. "\x`+one+`4"`, "., .", api.TokString, 3, 6)
		wantOpen(t, `.. "\x4`+one+`"`, "., .", api.TokString, 3, 7)
		return
	}
	wantRow(t, `"\x`+one+`4"`, "string "+string([]byte{byte(value*16 + 4)}))
	wantRow(t, `"\x4`+one+`"`, "string "+string([]byte{byte(4*16 + value)}))
}

func TestStringsThatAreNotClosed(t *testing.T) {
	for _, x := range []struct {
		text string
		far  int
	}{
		{`"`, 1}, {`"a`, 2}, {`"a\"`, 4}, {`"a\\`, 4},
		{"\"\n\"", 1}, {"\"a\n\"", 2}, {"\"a\r\"", 2}, {"\"a\t\"", 2}, {"\"a\x00\"", 2}, {"\"a\x7f\"", 2}, {"\"a\x80\"", 2}, {"\"é\"", 1},
		{`"\`, 2}, {"\"\\\n", 2}, {`"\q"`, 2}, {`"\N"`, 2}, {`"\X41"`, 2}, {`"\ n"`, 2}, {"\"\\\xff\"", 2},
		{`"\x`, 3}, {`"\x"`, 3}, {`"\xg0"`, 3}, {`"\xA0"`, 3}, {"\"\\x\n", 3}, {`"\x 0"`, 3}, {"\"\\x\xff\"", 3},
		{`"\x4`, 4}, {`"\x4"`, 4}, {`"\x4g"`, 4}, {`"\x4A"`, 4}, {"\"\\x4\n", 4}, {`"\x4\`, 4},
		{`"\x41`, 5}, {`"\x41\`, 6}, {`"\x41\x`, 7}, {`"\n\t\"\\\`, 10},
	} {
		wantOpen(t, x.text, "", api.TokString, 0, x.far)
		wantOpen(t, "p("+x.text, "name p, (", api.TokString, 2, 2+x.far)
		wantOpen(t, `""`+x.text, "string ", api.TokString, 2, 2+x.far)
	}
}

func TestLongStrings(t *testing.T) {
	for piece, b := range map[string]string{"a": "a", " ": " ", `\"`: `"`, `\\`: `\`, `\n`: "\n", `\x00`: "\x00", `\xff`: "\xff", `\x61`: "a"} {
		pieces := `"` + letters(1024, piece)
		wantRow(t, pieces+`"`, "string "+letters(1024, b))
		wantRow(t, pieces+`""b".`, "string "+letters(1024, b)+", string b, .")
		wantOpen(t, pieces, "", api.TokString, 0, len(pieces))
		for _, more := range []string{"a", " ", `\`, `\"`, `\x`, `\x61`, "\n", "\xff", "é"} {
			wantOpen(t, pieces+more, "", api.TokString, 0, len(pieces))
			wantOpen(t, pieces+more+`"`, "", api.TokString, 0, len(pieces))
			wantOpen(t, "X"+pieces+more+`"`, "variable X", api.TokString, 1, 1+len(pieces))
		}
		shorter := `"` + letters(1023, piece)
		wantRow(t, shorter+`"`, "string "+letters(1023, b))
		wantRow(t, shorter+`\x0a"`, "string "+letters(1023, b)+"\n")
		wantOpen(t, shorter+`\`, "", api.TokString, 0, len(shorter)+1)
		wantOpen(t, shorter+`\x0`, "", api.TokString, 0, len(shorter)+3)
		wantOpen(t, `"`+letters(4000, piece)+`"`, "", api.TokString, 0, len(pieces))
	}
}

func TestBytesAbove127(t *testing.T) {
	for b := 127; b < 256; b++ {
		one := string([]byte{byte(b)})
		wantOpen(t, `p("a`+one+`").`, "name p, (", api.TokString, 2, 4)
		wantRow(t, "p % "+one+"\n.", "name p, .")
		wantStop(t, "p "+one, "name p", 2)
	}
	wantRow(t, "p % é€😀\n.", "name p, .")
	wantStop(t, "é", "", 0)
	wantStop(t, "naïve", "name na", 2)
	wantStop(t, "١", "", 0)
	wantStop(t, "a\u00a0b", "name a", 1)
	wantStop(t, "a\u0085b", "name a", 1)
	wantStop(t, "\ufeffp.", "", 0)
}

// allTexts are all texts of up to so many of these bytes.
func allTexts(bytes string, count int) []string {
	texts := []string{""}
	for i := 0; len(texts[i]) < count; i++ {
		for b := range len(bytes) {
			texts = append(texts, texts[i]+bytes[b:b+1])
		}
	}
	return texts
}

func TestAllShortTexts(t *testing.T) {
	for _, text := range allTexts("aX0_ \n%\"\\xn:-!=(;\x80", 4) {
		wantPlain(t, text)
	}
}

func TestAllShortStrings(t *testing.T) {
	for _, text := range allTexts("a\"\\x0A\n\x80", 5) {
		wantPlain(t, "\""+text)
	}
}

func TestAllShortRemarks(t *testing.T) {
	for _, text := range allTexts("a1% \n\".", 6) {
		wantPlain(t, text)
	}
}

// drawText lays pieces of programs behind one another, whole ones and broken ones.
func drawText(r *rand.Rand, count int) string {
	pieces := []string{
		"input", "output", "not", "p", "qR_1", "X", "Y2", "_", "0", "12", "007",
		`"`, `"a"`, `"a b\n"`, `\`, `\x`, `\x4`, `\x4a`, `\"`, `"\xfF`, "(", ")", ",", ".", "/", ":-", "!=", ":", "-", "!", "=",
		" ", " ", " ", "\t", "\r", "\n", "\n", "%", "% a remark\n", "%\"\n", ";", "\x00", "\x7f", "\x80", "é",
	}
	var text strings.Builder
	for range count {
		text.WriteString(pieces[r.Intn(len(pieces))])
	}
	return text.String()
}

func TestDrawnTexts(t *testing.T) {
	r := rand.New(rand.NewSource(71))
	for range 3000 {
		text := drawText(r, r.Intn(12))
		wantPlain(t, text)
		wantLaws(t, text)
	}
}

func TestALongText(t *testing.T) {
	statement := "p(X, \"a\\x0a\") :- not q(X), X != 01. % a remark\n"
	list, open, far, e := Tokens(letters(20000, statement))
	if len(list) != 20000*17 || open != (api.Token{}) || far != 20000*len(statement) || e != api.OK {
		t.Fatalf("%d tokens, %v, %d, %v", len(list), open, far, e)
	}
	one, _, _, _ := Tokens(statement)
	for i, x := range list {
		wanted := one[i%17]
		wanted.At += i / 17 * len(statement)
		wanted.End += i / 17 * len(statement)
		if x != wanted {
			t.Fatalf("the token %d is %v; want %v", i, x, wanted)
		}
	}
}

func FuzzTokens(f *testing.F) {
	f.Add("input e/2 \"f\\x0a\". % x\np(X) :- not q, X != 01.", " r.")
	f.Add("p(1a)", "\"")
	f.Add("\"a\\x4", "g\"")
	f.Add(letters(65, "a"), ":")
	f.Fuzz(func(t *testing.T, text, more string) {
		if len(text) > 2000 {
			return
		}
		// The measure tries every way to cut a text, which takes long of long ones.
		if len(text) < 80 {
			wantPlain(t, text)
		}
		wantLaws(t, text)
		wantOneMore(t, text)
		if _, _, _, e := Tokens(text); e == api.OK {
			wantBehind(t, text, more)
		}
		wantQuoted(t, text)
	})
}

// P7.2

func TestEachOfNothing(t *testing.T) {
	for _, text := range []string{"", " ", "% x", ";", `"a`, ":", "!"} {
		seq := Each(text)
		if seq == nil {
			t.Fatalf("Each(%q) is nil", text)
		}
		if told := slices.Collect(seq); len(told) > 0 {
			t.Errorf("Each(%q) tells %v", text, told)
		}
	}
}

// wantFirst takes so many tokens, and leaves the loop then.
func wantFirst(t *testing.T, seq iter.Seq[api.Token], count int, tokens string) {
	t.Helper()
	var told []api.Token
	for x := range seq {
		told = append(told, x)
		if len(told) == count {
			break
		}
	}
	if say(told) != tokens {
		t.Errorf("the first %d are %s; want %s", count, say(told), tokens)
	}
}

func TestEachIsLeftAndBegunAgain(t *testing.T) {
	for _, text := range []string{`a B 1 "c" not.`, `a B 1 "c" not.;`, `a B 1 "c" not. "d`, `a B 1 "c" not.:`} {
		seq := Each(text)
		whole := "name a, variable B, number 1, string c, not, ."
		for range 3 {
			wantFirst(t, seq, 1, "name a")
			wantFirst(t, seq, 3, "name a, variable B, number 1")
			wantFirst(t, seq, 99, whole)
		}
		for x := range seq {
			wantFirst(t, seq, 2, "name a, variable B")
			wantFirst(t, seq, 99, whole)
			if x.Kind == api.TokNumber {
				break
			}
		}
		wantFirst(t, seq, 99, whole)
	}
}

// A loop that was told to stop is told nothing more.
func TestEachStopsWhenItIsTold(t *testing.T) {
	for count := 1; count <= 3; count++ {
		calls := 0
		Each("a b c")(func(api.Token) bool {
			calls++
			return calls < count
		})
		if calls != count {
			t.Errorf("%d calls; want %d", calls, count)
		}
	}
}

// P7.6

// wantOneMore: of a row with any byte behind.
func wantOneMore(t testing.TB, text string) {
	t.Helper()
	if _, _, _, e := Tokens(text); e != api.OK {
		return
	}
	for b := range 256 {
		longer := text + string([]byte{byte(b)})
		if _, _, far, _ := Tokens(longer); far != len(text) && far != len(longer) {
			t.Errorf("Tokens(%q) goes as far as %d", longer, far)
		}
	}
}

// wantBehind: a text behind a row and a byte 10.
func wantBehind(t testing.TB, row, text string) {
	t.Helper()
	ahead, alone, both := answerOf(row), answerOf(text), answerOf(row+"\n"+text)
	by := len(row) + 1
	wanted := answer{slices.Clone(ahead.list), alone.open, alone.far + by, alone.e}
	for _, x := range alone.list {
		x.At += by
		x.End += by
		wanted.list = append(wanted.list, x)
	}
	if wanted.open.Kind != 0 {
		wanted.open.At += by
		wanted.open.End += by
	}
	if both.String() != wanted.String() {
		t.Errorf("%q behind %q is\n%v; want\n%v", text, row, both, wanted)
	}
}

var rows = []string{"", " ", "%", "% x", "% x\n", "a", "X", "1", "not", "input", `""`, `"a\n"`, "(", ")", ",", ".", "/", ":-", "!=", "a ", "a%", letters(64, "a"), letters(64, "1"), `"` + letters(1024, "b") + `"`, `input e/2 "f".`, "p(X):-not q."}

func TestOneByteMoreBehindARow(t *testing.T) {
	for _, row := range rows {
		if a := answerOf(row); a.e != api.OK {
			t.Errorf("%q is %v", row, a)
		}
		wantOneMore(t, row)
	}
	wantTokens(t, "a:", "name a", open(api.TokRule, 1, 2), 2, api.ErrSyntax)
	wantTokens(t, "a\"", "name a", open(api.TokString, 1, 2), 2, api.ErrSyntax)
	wantStop(t, "a;", "name a", 1)
}

func TestATextBehindARow(t *testing.T) {
	broken := []string{";", "a;", "1a", "a b!", "p :", `q "`, `q "\x4`, letters(65, "a"), "\xff", `"` + letters(1025, "b") + `"`}
	for _, row := range rows {
		for _, text := range append(broken, rows...) {
			wantBehind(t, row, text)
		}
	}
	r := rand.New(rand.NewSource(72))
	for range 3000 {
		text := drawText(r, r.Intn(8))
		if a := answerOf(text); a.e == api.OK {
			wantBehind(t, text, drawText(r, r.Intn(8)))
		}
	}
}

// P7.7

// What is answered is changed afterwards: no other answer changes.
func TestAnswersAreNewMemory(t *testing.T) {
	for _, text := range []string{`a B 1 "c" not.`, `a B 1 "c" not.;`, `a "`} {
		one, two := answerOf(text), answerOf(text)
		wanted := two.String()
		for i := range one.list[:cap(one.list)] {
			one.list[:cap(one.list)][i] = api.Token{Kind: 99, Text: "changed", At: -1, End: -1}
		}
		_ = append(one.list, api.Token{})
		if two.String() != wanted || answerOf(text).String() != wanted {
			t.Errorf("Tokens(%q) is %v, then %v; want %s", text, two, answerOf(text), wanted)
		}
		for x := range Each(text) {
			x.Text, x.Kind = "changed", 99
		}
		if told := slices.Collect(Each(text)); !slices.Equal(told, two.list) {
			t.Errorf("Each(%q) tells %v", text, told)
		}
	}
}

// overlap tells whether two texts have memory in common.
func overlap(a, b string) bool {
	if a == "" || b == "" {
		return false
	}
	x, y := uintptr(unsafe.Pointer(unsafe.StringData(a))), uintptr(unsafe.Pointer(unsafe.StringData(b)))
	return x < y+uintptr(len(b)) && y < x+uintptr(len(a))
}

// A token does not keep the text, and no two tokens have memory in common.
func TestTextsAreNewMemory(t *testing.T) {
	text := strings.Clone("a a ab B B 1 1 12 \"c\" \"c\" \"cd\" \"\\x63\" not.")
	list, _, _, _ := Tokens(text)
	list = slices.AppendSeq(list, Each(text))
	for i, x := range list {
		if overlap(x.Text, text) {
			t.Errorf("the token %v is a piece of the text", x)
		}
		for _, y := range list[:i] {
			if overlap(x.Text, y.Text) {
				t.Errorf("the tokens %v and %v share their text", x, y)
			}
		}
	}
}
