package parse

import "inkling/api"

// state tells what may come next.
type state int

const (
	atStatement    state = iota // the text's end, too
	atRule                      // a statement of the third sort alone
	atEnd                       // the text's end alone
	atPredicate                 // that an input or an output names
	behindDeclared              // that predicate
	atArity
	atFile
	atDot
	behindHeadName
	behindHead
	atTerm // of an atom
	behindTerm
	atLiteral
	atNegated
	behindNegatedName
	behindName // which is an atom's, or a term: what comes next tells
	behindLeft
	atRight
	behindLiteral
)

// someTerm are the kinds of tokens that are terms.
const someTerm = 1<<api.TokVariable | 1<<api.TokName | 1<<api.TokNumber | 1<<api.TokString

// next has, for each state, the kinds of tokens that may come next, each by its bit.
var next = [...]uint32{
	atStatement:       1<<api.TokInput | 1<<api.TokOutput | 1<<api.TokName,
	atRule:            1 << api.TokName,
	atEnd:             0,
	atPredicate:       1 << api.TokName,
	behindDeclared:    1 << api.TokSlash,
	atArity:           1 << api.TokNumber,
	atFile:            1 << api.TokString,
	atDot:             1 << api.TokDot,
	behindHeadName:    1<<api.TokOpen | 1<<api.TokRule | 1<<api.TokDot,
	behindHead:        1<<api.TokRule | 1<<api.TokDot,
	atTerm:            someTerm,
	behindTerm:        1<<api.TokComma | 1<<api.TokClose,
	atLiteral:         someTerm | 1<<api.TokNot,
	atNegated:         1 << api.TokName,
	behindNegatedName: 1<<api.TokOpen | 1<<api.TokComma | 1<<api.TokDot,
	behindName:        1<<api.TokOpen | 1<<api.TokUnlike | 1<<api.TokComma | 1<<api.TokDot,
	behindLeft:        1 << api.TokUnlike,
	atRight:           someTerm,
	behindLiteral:     1<<api.TokComma | 1<<api.TokDot,
}

// mayEnd tells whether a text may end here.
func (s state) mayEnd() bool { return s == atStatement || s == atEnd }

// asks tells whether a token of that kind may come next, as far as the state tells it.
func (s state) asks(kind api.TokenKind) bool { return next[s]>>kind&1 == 1 }
