package roles

import "inkling/api"

// firstUnformed is the first statement, in order, that is not in form, or the zero spot.
func firstUnformed(p api.Program) api.Spot {
	for i, input := range p.Inputs {
		if !formedInput(input) {
			return api.Spot{Part: api.PartInput, Index: i}
		}
	}
	for i, output := range p.Outputs {
		if !formedOutput(output) {
			return api.Spot{Part: api.PartOutput, Index: i}
		}
	}
	for i, rule := range p.Rules {
		if !FormedRule(rule) {
			return api.Spot{Part: api.PartRule, Index: i}
		}
	}
	return api.Spot{}
}

func formedInput(i api.Input) bool {
	return formedOutput(api.Output{Pred: i.Pred, Arity: i.Arity}) && isConstant(i.File)
}

func formedOutput(o api.Output) bool {
	return isName(o.Pred) && 0 <= o.Arity && o.Arity <= api.MaxArity
}

func formedLiteral(l api.Literal) bool {
	var none api.Term
	switch l.Kind {
	case api.Positive:
		fallthrough
	case api.Negative:
		return formedAtom(l.Atom) && l.Left == none && l.Right == none
	case api.Unlike:
		return formedTerm(l.Left) && formedTerm(l.Right) && l.Atom.Pred == "" && len(l.Atom.Args) == 0
	}
	return false
}

func formedAtom(a api.Atom) bool {
	if !isName(a.Pred) || len(a.Args) > api.MaxArity {
		return false
	}
	for _, term := range a.Args {
		if !formedTerm(term) {
			return false
		}
	}
	return true
}

func formedTerm(t api.Term) bool {
	if t.Var {
		return isVariable(t.Text)
	}
	return isConstant(t.Text)
}

func isConstant(text string) bool { return len(text) <= api.MaxText }

func isVariable(text string) bool { return isWord(text) && isGreat(text[0]) }

// isName is true of the names that a predicate may have.
func isName(text string) bool {
	switch text {
	case "input", "output", "not":
		return false
	}
	return isWord(text) && isSmall(text[0])
}

// isWord is true of what names and variables have in common: their bytes, and how many there are.
func isWord(text string) bool {
	if len(text) < 1 || len(text) > api.MaxName {
		return false
	}
	for i := range len(text) {
		if b := text[i]; !isSmall(b) && !isGreat(b) && !isDigit(b) && b != '_' {
			return false
		}
	}
	return true
}

func isSmall(b byte) bool { return 'a' <= b && b <= 'z' }

func isGreat(b byte) bool { return 'A' <= b && b <= 'Z' }

func isDigit(b byte) bool { return '0' <= b && b <= '9' }
