package facts

import (
	"strings"

	"inkling/api"
)

// nowhere is the place of what is wrong, where nothing is.
const nowhere = -1

// eachLine hands a text's lines to wrongIn, in order, up to the first one in which it tells a place; that place in the text is the answer, or nowhere.
func eachLine(text string, wrongIn func(line string) int) int {
	for start := 0; start < len(text); {
		line, _, _ := strings.Cut(text[start:], "\n")
		if at := wrongIn(line); at != nowhere {
			return start + at
		}
		start += len(line) + 1
	}
	return nowhere
}

// roomFor is room for any one constant of a text.
func roomFor(text string) []byte { return make([]byte, 0, min(len(text), api.MaxText)) }

// walk goes through a line, and hands the constant of each field to take, in the room, where the next one is written over it. It answers the place of the first byte 10 or of what is wrong, where it stops, or nowhere.
func walk(line string, room []byte, take func(constant []byte)) int {
	constant, at := room[:0], 0
plain:
	if at == len(line) {
		take(constant)
		return nowhere
	}
	switch b := line[at]; {
	case b == '\t':
		take(constant)
		constant = room[:0]
	case b == '\n' || len(constant) == api.MaxText:
		goto wrong
	case b == '\\':
		at++
		goto escaped
	default:
		constant = append(constant, b)
	}
	at++
	goto plain
escaped:
	if at == len(line) {
		goto wrong
	}
	switch line[at] {
	case 't':
		constant = append(constant, '\t')
	case 'n':
		constant = append(constant, '\n')
	case '\\':
		constant = append(constant, '\\')
	default:
		goto wrong
	}
	at++
	goto plain
wrong:
	return at
}

// cut is a line's constants, one at least, and nowhere; or those ahead of what is wrong, and its place.
func cut(line string, room []byte) ([]string, int) {
	var constants []string
	at := walk(line, room, func(constant []byte) {
		constants = append(constants, string(constant))
	})
	return constants, at
}

// fieldsOf is how many fields a written line has, read as one of the arity.
func fieldsOf(line string, arity int) int {
	if line == "" && arity == 0 {
		return 0
	}
	return strings.Count(line, "\t") + 1
}

// tupleOf is the tuple of a written line that has as many fields as the arity says.
func tupleOf(line string, arity int, room []byte) []string {
	tuple := make([]string, 0, arity)
	// The walk tells one field of every empty line.
	if arity > 0 {
		walk(line, room, func(constant []byte) {
			tuple = append(tuple, string(constant))
		})
	}
	return tuple
}

// writeLine writes the fields of constants with a byte 9 between each two.
func writeLine(text *strings.Builder, constants []string) {
	for i, constant := range constants {
		if i > 0 {
			text.WriteByte('\t')
		}
		writeField(text, constant)
	}
}

func writeField(text *strings.Builder, constant string) {
	for i := range len(constant) {
		switch b := constant[i]; b {
		case '\t':
			text.WriteString(`\t`)
		case '\n':
			text.WriteString(`\n`)
		case '\\':
			text.WriteString(`\\`)
		default:
			text.WriteByte(b)
		}
	}
}
