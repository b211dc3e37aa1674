package lex

import (
	"fmt"
	"slices"
	"strings"
	"testing"

	"inkling/api"
)

// wantWord asks all five of P7.3; kinds are those that a text is, of n, r, v, d, c: a name, a reserved word, a variable, a number, a constant.
func wantWord(t *testing.T, s, kinds string) {
	t.Helper()
	for _, x := range []struct {
		letter string
		is     func(string) bool
	}{{"n", Name}, {"r", Reserved}, {"v", Variable}, {"d", Number}, {"c", Constant}} {
		if x.is(s) != strings.Contains(kinds, x.letter) {
			t.Errorf("%q: %s is %v; want %s", s, x.letter, x.is(s), kinds)
		}
	}
}

// P7.3

func TestWords(t *testing.T) {
	for s, kinds := range map[string]string{
		"": "c", "not": "rc", "input": "rc", "output": "rc", "a_B9": "nc", "A": "vc", "_a": "c", "_": "c",
		"007": "dc", "0": "dc", "-1": "c", "+1": "c", "1.0": "c", "1a": "c", "1_": "c", "X_": "vc", "x": "nc", "X1y": "vc",
		"nota": "nc", "inputs": "nc", "output_": "nc", "Not": "vc", "NOT": "vc", "no": "nc", "notnot": "nc",
		" ": "c", "a ": "c", " a": "c", "a b": "c", "a\n": "c", "A\n": "c", "1\n": "c", "not ": "c", "\nnot": "c", "not\x00": "c",
		"a-b": "c", "a.": "c", "é": "c", "aé": "c", "Aé": "c", "1\xff": "c", "a%": "c", "١": "c", `"a"`: "c", "\x00": "c", "(": "c", ":-": "c",
	} {
		wantWord(t, s, kinds)
	}
}

func TestWordsOfOneAndTwoBytes(t *testing.T) {
	for b := range 256 {
		one := string([]byte{byte(b)})
		kinds := "c"
		switch {
		case b >= 'a' && b <= 'z':
			kinds = "nc"
		case b >= 'A' && b <= 'Z':
			kinds = "vc"
		case b >= '0' && b <= '9':
			kinds = "dc"
		}
		wantWord(t, one, kinds)
		switch {
		case kinds != "c" || one == "_":
			wantWord(t, "a"+one, "nc")
			wantWord(t, "A"+one, "vc")
		default:
			wantWord(t, "a"+one, "c")
			wantWord(t, "A"+one, "c")
		}
		wantWord(t, "1"+one, strings.Trim(kinds, "nv"))
	}
}

func TestWordsAtTheLimits(t *testing.T) {
	wantWord(t, letters(64, "a"), "nc")
	wantWord(t, letters(65, "a"), "c")
	wantWord(t, letters(64, "A"), "vc")
	wantWord(t, letters(65, "A"), "c")
	wantWord(t, letters(64, "0"), "dc")
	wantWord(t, letters(65, "0"), "c")
	wantWord(t, "not"+letters(61, "_"), "nc")
	wantWord(t, "not"+letters(62, "_"), "c")
	wantWord(t, letters(63, "a")+";", "c")
	wantWord(t, letters(64, "a")+";", "c")
	for _, s := range []string{"a", "A", "1", "\x00", "\xff"} {
		wantWord(t, letters(1023, s), "c")
		wantWord(t, letters(1024, s), "c")
		wantWord(t, letters(1025, s), "")
		wantWord(t, letters(1<<20, s), "")
	}
	// Bytes count, not runes.
	wantWord(t, letters(512, "é"), "c")
	wantWord(t, letters(512, "é")+"a", "")
}

// P7.4, P7.5

// wantText holds an answer of Quote or Show against what is wanted.
func wantText(t testing.TB, call, s, got string, e api.Errno, wanted string, wantedError api.Errno) {
	t.Helper()
	if got != wanted || e != wantedError {
		t.Errorf("%s(%q) is %q, %v; want %q, %v", call, s, got, e, wanted, wantedError)
	}
}

func wantQuote(t testing.TB, s, wanted string) {
	t.Helper()
	got, e := Quote(s)
	wantText(t, "Quote", s, got, e, wanted, api.OK)
}

func wantShow(t testing.TB, s, wanted string) {
	t.Helper()
	got, e := Show(s)
	wantText(t, "Show", s, got, e, wanted, api.OK)
}

func wantTooLong(t testing.TB, s string) {
	t.Helper()
	got, e := Quote(s)
	wantText(t, "Quote", s, got, e, "", api.ErrLong)
	got, e = Show(s)
	wantText(t, "Show", s, got, e, "", api.ErrLong)
}

// plainQuote goes by P7.4's words.
func plainQuote(s string) string {
	quoted := `"`
	for _, b := range []byte(s) {
		switch {
		case b == 34:
			quoted += `\"`
		case b == 92:
			quoted += `\\`
		case b == 10:
			quoted += `\n`
		case b == 9:
			quoted += `\t`
		case b >= 32 && b <= 126:
			quoted += string(rune(b))
		default:
			quoted += fmt.Sprintf(`\x%02x`, b)
		}
	}
	return quoted + `"`
}

// wantQuoted holds Quote and Show of any text against P7.4 to P7.6.
func wantQuoted(t testing.TB, s string) {
	t.Helper()
	if len(s) > 1024 {
		wantTooLong(t, s)
		return
	}
	wantQuote(t, s, plainQuote(s))
	shown := plainQuote(s)
	kind := api.TokString
	switch {
	case plainName.MatchString(s) && s != "not" && s != "input" && s != "output":
		shown, kind = s, api.TokName
	case plainNumber.MatchString(s):
		shown, kind = s, api.TokNumber
	}
	wantShow(t, s, shown)
	wantOneToken(t, plainQuote(s), api.TokString, s)
	wantOneToken(t, shown, kind, s)
}

// wantOneToken: a text is one token and nothing else.
func wantOneToken(t testing.TB, text string, kind api.TokenKind, tokenText string) {
	t.Helper()
	a := answerOf(text)
	if a.e != api.OK || !slices.Equal(a.list, []api.Token{{Kind: kind, Text: tokenText, End: len(text)}}) {
		t.Errorf("Tokens(%q) is %v", text, a)
	}
}

func TestQuoteAndShowOfTheExamples(t *testing.T) {
	wantQuote(t, "a\n\"\xc8", `"a\n\"\xc8"`)
	wantShow(t, "a1", "a1")
	wantShow(t, "12", "12")
	wantShow(t, "X", `"X"`)
	wantShow(t, "not", `"not"`)
	wantShow(t, "", `""`)
	wantTooLong(t, letters(1025, "a"))
}

func TestQuote(t *testing.T) {
	wantQuote(t, "", `""`)
	wantQuote(t, "a", `"a"`)
	wantQuote(t, "12", `"12"`)
	wantQuote(t, "\\n", `"\\n"`)
	wantQuote(t, "\"\\\n\t\r\x00\x1f \x7e\x7f\x80\xff", `"\"\\\n\t\x0d\x00\x1f ~\x7f\x80\xff"`)
	wantQuote(t, "é", `"\xc3\xa9"`)
	wantQuote(t, "%(),./:-!=", `"%(),./:-!="`)
}

func TestShow(t *testing.T) {
	for s, shown := range map[string]string{
		"a_B9": "a_B9", "007": "007", "0": "0", "input": `"input"`, "output": `"output"`, "inputs": "inputs", "nota": "nota",
		"Not": `"Not"`, "_a": `"_a"`, "1a": `"1a"`, "-1": `"-1"`, "a b": `"a b"`, "a\n": `"a\n"`, " ": `" "`, `"a"`: `"\"a\""`, "é": `"\xc3\xa9"`,
	} {
		wantShow(t, s, shown)
	}
	for _, s := range []string{"a", "9", "0"} {
		wantShow(t, letters(64, s), letters(64, s))
		wantShow(t, letters(65, s), `"`+letters(65, s)+`"`)
	}
	wantShow(t, letters(64, "A"), `"`+letters(64, "A")+`"`)
}

func TestQuoteAndShowOfEveryByte(t *testing.T) {
	var all []byte
	for b := range 256 {
		one := string([]byte{byte(b)})
		wantQuoted(t, one)
		wantQuoted(t, "a"+one)
		wantQuoted(t, "1"+one)
		wantQuoted(t, "X"+one+"41")
		all = append(all, byte(b))
	}
	wantQuoted(t, string(all))
	for _, s := range []string{"", "not", "input", "output", "notnot", "007", "X"} {
		wantQuoted(t, s)
	}
}

func TestQuoteAndShowAtTheLimits(t *testing.T) {
	for _, s := range []string{"a", "A", "0", " ", "\"", "\n", "\x00", "\xff"} {
		for _, count := range []int{63, 64, 65, 1023, 1024, 1025, 5000} {
			wantQuoted(t, letters(count, s))
		}
	}
	wantTooLong(t, letters(1025, "0"))
	wantTooLong(t, letters(512, "é")+"a")
}

// P7.7

func TestShowIsNewMemory(t *testing.T) {
	for _, text := range []string{"a", "abc", "7", "12", "X", "not"} {
		s := strings.Clone(text)
		one, _ := Show(s)
		two, _ := Show(s)
		three, _ := Quote(s)
		four, _ := Quote(s)
		for i, x := range []string{one, two, three, four} {
			for _, y := range []string{s, one, two, three, four}[:i+1] {
				if overlap(x, y) {
					t.Errorf("%q: the answer %d has memory in common with another text", s, i)
				}
			}
		}
	}
}
