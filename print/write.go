package print

import (
	"strconv"
	"strings"

	"inkling/api"
	"inkling/lex"
)

// writes writes a thing's text behind what is there. It tells whether the thing is in form: if it is not, what was written is of no use.
type writes[T any] func(text *strings.Builder, thing T) bool

// writeList writes things with a text between each two, up to the first one that is not in form.
func writeList[T any](text *strings.Builder, things []T, between string, write writes[T]) bool {
	for i, thing := range things {
		if i > 0 {
			text.WriteString(between)
		}
		if !write(text, thing) {
			return false
		}
	}
	return true
}

// line is write with a byte 10 behind.
func line[T any](write writes[T]) writes[T] {
	return func(text *strings.Builder, thing T) bool {
		inForm := write(text, thing)
		text.WriteByte('\n')
		return inForm
	}
}

// writeQuoted goes by stretches, since lex quotes none that is longer than a constant.
func writeQuoted(text *strings.Builder, s string) {
	text.WriteByte('"')
	for len(s) > 0 {
		end := min(len(s), api.MaxText)
		quoted, _ := lex.Quote(s[:end])
		text.WriteString(quoted[1 : len(quoted)-1])
		s = s[end:]
	}
	text.WriteByte('"')
}

func writeTerm(text *strings.Builder, t api.Term) bool {
	if t.Var && !lex.Variable(t.Text) || !lex.Constant(t.Text) {
		return false
	}
	if t.Var || Bare(t.Text) {
		text.WriteString(t.Text)
	} else {
		writeQuoted(text, t.Text)
	}
	return true
}

func writeAtom(text *strings.Builder, a api.Atom) bool {
	if !lex.Name(a.Pred) || len(a.Args) > api.MaxArity {
		return false
	}
	text.WriteString(a.Pred)
	if len(a.Args) == 0 {
		return true
	}
	text.WriteByte('(')
	inForm := writeList(text, a.Args, ", ", writeTerm)
	text.WriteByte(')')
	return inForm
}

func writeLiteral(text *strings.Builder, l api.Literal) bool {
	switch l.Kind {
	case api.Negative:
		text.WriteString("not ")
		fallthrough
	case api.Positive:
		return l.Left == api.Term{} && l.Right == api.Term{} && writeAtom(text, l.Atom)
	case api.Unlike:
		noAtom := l.Atom.Pred == "" && len(l.Atom.Args) == 0
		return noAtom && writeList(text, []api.Term{l.Left, l.Right}, " != ", writeTerm)
	}
	return false
}

func writeRule(text *strings.Builder, r api.Rule) bool {
	if len(r.Body) > api.MaxBody || !writeAtom(text, r.Head) {
		return false
	}
	if len(r.Body) > 0 {
		text.WriteString(" :- ")
	}
	inForm := writeList(text, r.Body, ", ", writeLiteral)
	text.WriteByte('.')
	return inForm
}

func writeInput(text *strings.Builder, i api.Input) bool {
	if !writeDeclared(text, "input ", i.Pred, i.Arity) || !lex.Constant(i.File) {
		return false
	}
	text.WriteByte(' ')
	writeQuoted(text, i.File)
	text.WriteByte('.')
	return true
}

func writeOutput(text *strings.Builder, o api.Output) bool {
	inForm := writeDeclared(text, "output ", o.Pred, o.Arity)
	text.WriteByte('.')
	return inForm
}

// writeDeclared writes what inputs and outputs begin with.
func writeDeclared(text *strings.Builder, word, pred string, arity int) bool {
	if !lex.Name(pred) || arity < 0 || arity > api.MaxArity {
		return false
	}
	text.WriteString(word)
	text.WriteString(pred)
	text.WriteByte('/')
	text.WriteString(strconv.Itoa(arity))
	return true
}

func writeProgram(text *strings.Builder, p api.Program) bool {
	return writeList(text, p.Inputs, "", line(writeInput)) &&
		writeList(text, p.Outputs, "", line(writeOutput)) &&
		writeList(text, p.Rules, "", line(writeRule))
}
