package lex

import (
	"strings"

	"inkling/api"
)

// hexDigits has each digit of a byte at the place of its value; great letters are none.
const hexDigits = "0123456789abcdef"

// unquote reads a text that begins with a quotation mark: the constant, how far it goes as the beginning of a string, and whether the string is closed there. What is not closed has no constant.
func unquote(text string) (string, int, bool) {
	var constant strings.Builder
	var high, low int
	at := 1
plain:
	switch r := runeAt(text, at); {
	case r == '"':
		return constant.String(), at + 1, true
	case constant.Len() == api.MaxText:
		goto open
	case r == '\\':
		at++
		goto escape
	case isPlain(r):
		constant.WriteByte(byte(r))
		at++
		goto plain
	default:
		goto open
	}
escape:
	switch r := runeAt(text, at); r {
	case '"', '\\':
		constant.WriteByte(byte(r))
	case 'n':
		constant.WriteByte('\n')
	case 't':
		constant.WriteByte('\t')
	case 'x':
		at++
		goto digits
	default:
		goto open
	}
	at++
	goto plain
digits:
	if high = hexValue(runeAt(text, at)); high < 0 {
		goto open
	}
	at++
	if low = hexValue(runeAt(text, at)); low < 0 {
		goto open
	}
	at++
	constant.WriteByte(byte(high<<4 | low))
	goto plain
open:
	return "", at, false
}

// hexValue is -1 of what is no digit.
func hexValue(r rune) int { return strings.IndexRune(hexDigits, r) }

// isPlain tells whether a byte may stand for itself in a string, the quotation mark and the backslash aside.
func isPlain(r rune) bool { return ' ' <= r && r <= '~' }

// writePiece writes the one piece by which Quote tells a byte.
func writePiece(quoted *strings.Builder, b byte) {
	switch {
	case b == '"' || b == '\\':
		quoted.WriteByte('\\')
		quoted.WriteByte(b)
	case b == '\n':
		quoted.WriteString(`\n`)
	case b == '\t':
		quoted.WriteString(`\t`)
	case isPlain(rune(b)):
		quoted.WriteByte(b)
	default:
		quoted.WriteString(`\x`)
		quoted.WriteByte(hexDigits[b>>4])
		quoted.WriteByte(hexDigits[b&15])
	}
}
