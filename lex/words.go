package lex

import "inkling/api"

// reserved stand in the order of their kinds.
var reserved = [...]string{"input", "output", "not"}

// reservedKind is 0 of a text that is none of them.
func reservedKind(s string) api.TokenKind {
	for i, word := range reserved {
		if s == word {
			return api.TokInput + api.TokenKind(i)
		}
	}
	return 0
}

func isWord(s string, kind api.TokenKind) bool {
	found, length := word(s)
	return found == kind && length == len(s)
}

// word is the kind and the length of the longest word that a text begins with; noughts, if it begins with none.
func word(text string) (api.TokenKind, int) {
	switch r := runeAt(text, 0); {
	case isSmall(r):
		length := run(text, inWord)
		if kind := reservedKind(text[:length]); kind != 0 {
			return kind, length
		}
		return api.TokName, length
	case isGreat(r):
		return api.TokVariable, run(text, inWord)
	case isDigit(r):
		return api.TokNumber, run(text, isDigit)
	}
	return 0, 0
}

// run is how many bytes at a text's beginning fit, as far as a word may go.
func run(text string, fits func(r rune) bool) int {
	n := 0
	for n < api.MaxName && fits(runeAt(text, n)) {
		n++
	}
	return n
}

func isSmall(r rune) bool { return 'a' <= r && r <= 'z' }

func isGreat(r rune) bool { return 'A' <= r && r <= 'Z' }

func isDigit(r rune) bool { return '0' <= r && r <= '9' }

func inWord(r rune) bool { return isSmall(r) || isGreat(r) || isDigit(r) || r == '_' }
