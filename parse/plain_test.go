package parse

import (
	"strconv"
	"strings"
)

// What stands here goes by the document's grammar alone, byte by byte, and tries every way to read a text: a measure for what the package answers. It asks no token of lex.

// spot is where a way to read a text stands: ahead of which byte, and whether a word ends right there.
type spot struct {
	at   int
	word bool
}

// measure is of one text: far is the furthest byte that any way came to, whole whether one of them took all of it.
type measure struct {
	text  string
	far   int
	whole bool
}

// part is a piece of the grammar: it goes on with then from each spot at which it may end. All that can be begun can be ended, so each byte that it takes is one of a beginning.
type part func(m *measure, from spot, then func(spot))

// takes tells whether the byte there is one of these, which is a step further.
func (m *measure) takes(at int, bytes string) bool {
	if at >= len(m.text) || strings.IndexByte(bytes, m.text[at]) < 0 {
		return false
	}
	m.far = max(m.far, at+1)
	return true
}

const (
	small  = "abcdefghijklmnopqrstuvwxyz"
	great  = "ABCDEFGHIJKLMNOPQRSTUVWXYZ"
	digit  = "0123456789"
	inWord = small + great + digit + "_"
)

func plainBlanks(m *measure, from spot, then func(spot)) {
	for {
		switch {
		case m.takes(from.at, " \t\n\r"):
			from = spot{at: from.at + 1}
		case m.takes(from.at, "%"):
			for from.at < len(m.text) && m.text[from.at] != '\n' {
				from = spot{at: from.at + 1}
				m.far = max(m.far, from.at)
			}
		default:
			then(from)
			return
		}
	}
}

func inTurn(parts ...part) part {
	if len(parts) == 0 {
		return func(m *measure, from spot, then func(spot)) { then(from) }
	}
	rest := inTurn(parts[1:]...)
	return func(m *measure, from spot, then func(spot)) {
		parts[0](m, from, func(next spot) { rest(m, next, then) })
	}
}

func oneOf(parts ...part) part {
	return func(m *measure, from spot, then func(spot)) {
		for _, p := range parts {
			p(m, from, then)
		}
	}
}

// upTo is a part none to count times.
func upTo(count int, p part) part {
	return func(m *measure, from spot, then func(spot)) {
		then(from)
		if count > 0 {
			p(m, from, func(next spot) { upTo(count-1, p)(m, next, then) })
		}
	}
}

// token is a part with blanks behind.
func token(p part) part { return inTurn(p, plainBlanks) }

// written is just these bytes.
func written(bytes string, word bool) part {
	return token(func(m *measure, from spot, then func(spot)) {
		if word && from.word {
			return
		}
		for i := range len(bytes) {
			if !m.takes(from.at+i, bytes[i:i+1]) {
				return
			}
		}
		then(spot{from.at + len(bytes), word})
	})
}

// plainWord is every word that begins so, and has such bytes behind.
func plainWord(first, more string) part {
	return token(func(m *measure, from spot, then func(spot)) {
		if from.word {
			return
		}
		fits := first
		for length := 1; length <= 64 && m.takes(from.at+length-1, fits); length++ {
			fits = more
			switch m.text[from.at : from.at+length] {
			case "input", "output", "not":
			default:
				then(spot{from.at + length, true})
			}
		}
	})
}

func plainString(m *measure, from spot, then func(spot)) {
	if !m.takes(from.at, `"`) {
		return
	}
	at := from.at + 1
	for range 1024 {
		if m.takes(at, `"`) {
			break
		}
		if at < len(m.text) && m.text[at] >= 32 && m.text[at] <= 126 && m.text[at] != '\\' {
			at++
			m.far = max(m.far, at)
			continue
		}
		if !m.takes(at, `\`) {
			return
		}
		switch {
		case m.takes(at+1, `"\nt`):
			at += 2
		case m.takes(at+1, "x") && m.takes(at+2, digit+"abcdef") && m.takes(at+3, digit+"abcdef"):
			at += 4
		default:
			return
		}
	}
	if m.takes(at, `"`) {
		then(spot{at: at + 1})
	}
}

func plainArity() part {
	var all []part
	for n := range 17 {
		all = append(all, written(strconv.Itoa(n), true))
	}
	return oneOf(all...)
}

func plainRule() part {
	sign := func(bytes string) part { return written(bytes, false) }
	name := plainWord(small, inWord)
	term := oneOf(plainWord(great, inWord), name, plainWord(digit, digit), token(plainString))
	atom := inTurn(name, upTo(1, inTurn(sign("("), term, upTo(15, inTurn(sign(","), term)), sign(")"))))
	literal := oneOf(atom, inTurn(written("not", true), atom), inTurn(term, sign("!="), term))
	body := inTurn(literal, upTo(255, inTurn(sign(","), literal)))
	return inTurn(atom, upTo(1, inTurn(sign(":-"), body)), sign("."))
}

func plainDeclared() part {
	sign := func(bytes string) part { return written(bytes, false) }
	name := plainWord(small, inWord)
	input := inTurn(written("input", true), name, sign("/"), plainArity(), token(plainString), sign("."))
	output := inTurn(written("output", true), name, sign("/"), plainArity(), sign("."))
	return oneOf(input, output)
}

// plainAnswer is how far a text goes, and whether it is of the grammar.
func plainAnswer(text string, grammar part) (int, bool) {
	m := &measure{text: text}
	inTurn(plainBlanks, grammar)(m, spot{}, func(end spot) {
		m.whole = m.whole || end.at == len(text)
	})
	return m.far, m.whole
}

// The grammar is made once: it is asked over and over.
var plainRuleOnce, plainStatement = plainRule(), oneOf(plainDeclared(), plainRule())

func plainProgram(text string) (int, bool) {
	return plainAnswer(text, upTo(len(text), plainStatement))
}

func plainRuleText(text string) (int, bool) { return plainAnswer(text, plainRuleOnce) }
