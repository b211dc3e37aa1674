package print

import (
	"fmt"
	"regexp"
	"strings"

	"inkling/api"
)

// What stands here goes by the document's words alone, and asks nothing of lex: a measure for what the package answers. Of a thing that is not in form it says no text, and false.

var (
	nameForm     = regexp.MustCompile(`^[a-z][a-zA-Z0-9_]{0,63}$`)
	variableForm = regexp.MustCompile(`^[A-Z][a-zA-Z0-9_]{0,63}$`)
	digitsForm   = regexp.MustCompile(`^[0-9]{1,64}$`)
)

func plainName(s string) bool {
	return nameForm.MatchString(s) && s != "input" && s != "output" && s != "not"
}

func plainBare(s string) bool { return plainName(s) || digitsForm.MatchString(s) }

func plainQuote(s string) string {
	pieces := map[byte]string{34: `\"`, 92: `\\`, 10: `\n`, 9: `\t`}
	var quoted strings.Builder
	for _, b := range []byte(s) {
		piece, own := pieces[b]
		switch {
		case own:
			quoted.WriteString(piece)
		case b >= 32 && b <= 126:
			quoted.WriteByte(b)
		default:
			fmt.Fprintf(&quoted, `\x%02x`, b)
		}
	}
	return `"` + quoted.String() + `"`
}

func plainTerm(t api.Term) (string, bool) {
	switch {
	case t.Var && variableForm.MatchString(t.Text):
		return t.Text, true
	case t.Var || len(t.Text) > 1024:
		return "", false
	case plainBare(t.Text):
		return t.Text, true
	}
	return plainQuote(t.Text), true
}

func plainAtom(a api.Atom) (string, bool) {
	var terms []string
	ok := plainName(a.Pred) && len(a.Args) <= 16
	for _, x := range a.Args {
		text, inForm := plainTerm(x)
		terms = append(terms, text)
		ok = ok && inForm
	}
	switch {
	case !ok:
		return "", false
	case len(terms) == 0:
		return a.Pred, true
	}
	return a.Pred + "(" + strings.Join(terms, ", ") + ")", true
}

func plainLiteral(l api.Literal) (string, bool) {
	atom, atomOk := plainAtom(l.Atom)
	left, leftOk := plainTerm(l.Left)
	right, rightOk := plainTerm(l.Right)
	noAtom := l.Atom.Pred == "" && len(l.Atom.Args) == 0
	noTerms := l.Left.Text == "" && l.Right.Text == "" && !l.Left.Var && !l.Right.Var
	switch {
	case l.Kind == 1 && atomOk && noTerms:
		return atom, true
	case l.Kind == 2 && atomOk && noTerms:
		return "not " + atom, true
	case l.Kind == 3 && leftOk && rightOk && noAtom:
		return left + " != " + right, true
	}
	return "", false
}

func plainRule(r api.Rule) (string, bool) {
	head, ok := plainAtom(r.Head)
	ok = ok && len(r.Body) <= 256
	var body []string
	for _, x := range r.Body {
		text, inForm := plainLiteral(x)
		body = append(body, text)
		ok = ok && inForm
	}
	switch {
	case !ok:
		return "", false
	case len(body) == 0:
		return head + ".", true
	}
	return head + " :- " + strings.Join(body, ", ") + ".", true
}

// plainStatements are a program's lines, without the bytes 10.
func plainStatements(p api.Program) ([]string, bool) {
	var lines []string
	ok := true
	for _, x := range p.Inputs {
		ok = ok && plainName(x.Pred) && x.Arity >= 0 && x.Arity <= 16 && len(x.File) <= 1024
		lines = append(lines, fmt.Sprintf("input %s/%d %s.", x.Pred, x.Arity, plainQuote(x.File)))
	}
	for _, x := range p.Outputs {
		ok = ok && plainName(x.Pred) && x.Arity >= 0 && x.Arity <= 16
		lines = append(lines, fmt.Sprintf("output %s/%d.", x.Pred, x.Arity))
	}
	for _, x := range p.Rules {
		text, inForm := plainRule(x)
		ok = ok && inForm
		lines = append(lines, text)
	}
	return lines, ok
}

func plainProgram(p api.Program) (string, bool) {
	lines, ok := plainStatements(p)
	if !ok {
		return "", false
	}
	text := strings.Join(lines, "\n")
	if len(lines) > 0 {
		text += "\n"
	}
	return text, true
}
