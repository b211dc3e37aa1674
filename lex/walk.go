package lex

import (
	"iter"
	"strings"

	"inkling/api"
)

// walk goes through a text from token to token: up to far the text is a beginning of a row, and open is what is begun, but not whole, there.
type walk struct {
	text string
	far  int
	open api.Token
}

// tokens goes on from where the walk stands, and ends where no byte can mend the text.
func (w *walk) tokens() iter.Seq[api.Token] {
	return func(yield func(api.Token) bool) {
		for {
			token, ok := w.next()
			if !ok || !yield(token) {
				return
			}
		}
	}
}

func (w *walk) next() (api.Token, bool) {
	w.far += blanks(w.text[w.far:])
	token, whole := first(w.text[w.far:])
	if token.Kind == 0 || w.withinWord() {
		return api.Token{}, false
	}
	token.At += w.far
	token.End += w.far
	w.far = token.End
	if !whole {
		w.open = token
		return api.Token{}, false
	}
	return token, true
}

// withinWord tells whether a word would begin right behind another one. The byte ahead of where the walk stands tells it: no string, no sign and no blank that a token follows ends in a byte of a word.
func (w *walk) withinWord() bool {
	return inWord(runeAt(w.text, w.far-1)) && inWord(runeAt(w.text, w.far))
}

// first is the token that a text begins with, as if the text began at 0, and whether it is whole. One of no kind says that no token begins so.
func first(text string) (api.Token, bool) {
	switch r := runeAt(text, 0); {
	case isSmall(r), isGreat(r), isDigit(r):
		return firstWord(text), true
	case r == '"':
		return firstString(text)
	default:
		return firstSign(text)
	}
}

func firstWord(text string) api.Token {
	kind, length := word(text)
	token := api.Token{Kind: kind, End: length}
	switch kind {
	case api.TokName, api.TokVariable, api.TokNumber:
		// A piece of the text would keep all of it.
		token.Text = strings.Clone(text[:length])
	}
	return token
}

func firstString(text string) (api.Token, bool) {
	constant, length, closed := unquote(text)
	return api.Token{Kind: api.TokString, Text: constant, End: length}, closed
}

// signs stand in the order of their kinds. No two begin with the same byte, so the first byte tells which one it must be.
var signs = [...]string{"(", ")", ",", ".", "/", ":-", "!="}

func firstSign(text string) (api.Token, bool) {
	for i, sign := range signs {
		if length := common(text, sign); length > 0 {
			return api.Token{Kind: api.TokOpen + api.TokenKind(i), End: length}, length == len(sign)
		}
	}
	return api.Token{}, false
}

// common is how many bytes two texts have in common from their beginnings on.
func common(a, b string) int {
	n := 0
	for n < min(len(a), len(b)) && a[n] == b[n] {
		n++
	}
	return n
}

// blanks is how many bytes at a text's beginning are blank.
func blanks(text string) int {
	n := 0
	for {
		switch runeAt(text, n) {
		case ' ', '\t', '\n', '\r':
			n++
		case '%':
			n += remark(text[n:])
		default:
			return n
		}
	}
}

func remark(text string) int {
	if length := strings.IndexByte(text, '\n'); length >= 0 {
		return length
	}
	return len(text)
}

// runeAt is a byte as a rune, none decoded, since a text is bytes; outside the text it is -1, which is no byte.
func runeAt(text string, at int) rune {
	if at < 0 || at >= len(text) {
		return -1
	}
	return rune(text[at])
}
