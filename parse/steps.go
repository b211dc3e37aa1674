package parse

import "inkling/api"

// step makes of a token, that may come next, what it says, and answers which state is next.
func (w *walk) step(token api.Token) state {
	switch w.state {
	case atStatement, atRule:
		return w.statement(token)
	case atPredicate:
		w.declared.Pred = token.Text
		return behindDeclared
	case atArity:
		return w.arity(token)
	case atFile:
		w.declared.File = token.Text
		return atDot
	case atTerm:
		atom := w.atom()
		atom.Args = append(atom.Args, term(token))
		return behindTerm
	case atLiteral:
		return w.literal(token)
	case atNegated:
		w.atom().Pred = token.Text
		return behindNegatedName
	case atRight:
		w.last().Right = term(token)
		return behindLiteral
	default:
		return w.sign(token)
	}
}

func (w *walk) statement(token api.Token) state {
	w.first = token
	if token.Kind != api.TokName {
		return atPredicate
	}
	w.rule = api.Rule{Head: api.Atom{Pred: token.Text}}
	return behindHeadName
}

// arity is stuck behind those digits that are an arity.
func (w *walk) arity(token api.Token) state {
	value, digits := 0, 0
	for _, r := range token.Text {
		more := 10*value + int(r-'0')
		if more > api.MaxArity || digits > 0 && value == 0 {
			panic(stuck(token.At + digits))
		}
		value = more
		digits++
	}
	w.declared.Arity = value
	if w.first.Kind == api.TokInput {
		return atFile
	}
	return atDot
}

// literal begins one; of a NAME it is an atom, until a sign tells otherwise.
func (w *walk) literal(token api.Token) state {
	w.rule.Body = append(w.rule.Body, api.Literal{})
	last := w.last()
	switch token.Kind {
	case api.TokNot:
		last.Kind = api.Negative
		return atNegated
	case api.TokName:
		last.Kind = api.Positive
		last.Atom.Pred = token.Text
		return behindName
	default:
		last.Kind = api.Unlike
		last.Left = term(token)
		return behindLeft
	}
}

// last is the literal that is being read.
func (w *walk) last() *api.Literal { return &w.rule.Body[len(w.rule.Body)-1] }

// atom is the one that is being read: the head's, as long as there is no body.
func (w *walk) atom() *api.Atom {
	if len(w.rule.Body) == 0 {
		return &w.rule.Head
	}
	return &w.last().Atom
}

// term is of a token that is one.
func term(token api.Token) api.Term {
	var t api.Term
	switch token.Kind {
	case api.TokVariable:
		t.Var = true
		fallthrough
	case api.TokName, api.TokNumber, api.TokString:
		t.Text = token.Text
	}
	return t
}

// sign goes on as a sign says.
func (w *walk) sign(token api.Token) state {
	switch token.Kind {
	case api.TokSlash:
		return atArity
	case api.TokOpen:
		return atTerm
	case api.TokClose:
		return w.behindAtom()
	case api.TokComma:
		if w.state == behindTerm {
			return atTerm
		}
		return atLiteral
	case api.TokRule:
		return atLiteral
	case api.TokUnlike:
		return w.unlike()
	default:
		return w.dot()
	}
}

func (w *walk) behindAtom() state {
	if len(w.rule.Body) == 0 {
		return behindHead
	}
	return behindLiteral
}

func (w *walk) unlike() state {
	last := w.last()
	if last.Kind == api.Positive {
		*last = api.Literal{Kind: api.Unlike, Left: api.Term{Text: last.Atom.Pred}}
	}
	return atRight
}

// dot ends a statement, which its first token tells the sort of.
func (w *walk) dot() state {
	at := w.first.At
	switch w.first.Kind {
	case api.TokInput:
		w.program.Inputs = append(w.program.Inputs, w.declared)
		w.places.Inputs = append(w.places.Inputs, at)
	case api.TokOutput:
		w.program.Outputs = append(w.program.Outputs, api.Output{Pred: w.declared.Pred, Arity: w.declared.Arity})
		w.places.Outputs = append(w.places.Outputs, at)
	default:
		w.program.Rules = append(w.program.Rules, w.rule)
		w.places.Rules = append(w.places.Rules, at)
	}
	return w.behind
}
