package parse

import (
	"inkling/api"
	"inkling/lex"
)

// stuck is what a walk panics with: how many bytes the longest beginning has, where nothing mends the text behind it.
type stuck int

// walk goes through a text's tokens, and makes of them what they say.
type walk struct {
	tokens []api.Token // those that were not taken yet
	open   api.Token   // what is begun behind them
	far    int         // how far the text is a row of tokens
	row    bool        // all of the text is one
	state  state
	behind state // which state comes behind a statement

	program api.Program
	places  api.Places

	first    api.Token // of the statement that is being read
	declared api.Input // an output too, its file left aside
	rule     api.Rule
}

func begin(text string, behind state) *walk {
	tokens, open, far, e := lex.Tokens(text)
	return &walk{tokens: tokens, open: open, far: far, row: e == api.OK, behind: behind}
}

// run goes from state to state, by a token each, up to the text's end.
func (w *walk) run(first state) {
	w.state = first
again:
	if w.state.mayEnd() && w.row && len(w.tokens) == 0 {
		return
	}
	w.state = w.step(w.take())
	goto again
}

// take takes the next token, if it may come next.
func (w *walk) take() api.Token {
	if len(w.tokens) == 0 {
		panic(w.stuckBehind())
	}
	token := w.tokens[0]
	if !w.asks(token.Kind) {
		panic(w.stuckAt(token))
	}
	w.tokens = w.tokens[1:]
	return token
}

// asks tells whether a token of that kind may come next; a comma may not, where one thing more would be too many.
func (w *walk) asks(kind api.TokenKind) bool {
	return w.state.asks(kind) && (kind != api.TokComma || !w.full())
}

func (w *walk) full() bool {
	if w.state == behindTerm {
		return len(w.atom().Args) == api.MaxArity
	}
	return len(w.rule.Body) == api.MaxBody
}

// stuckAt is of a token that may not come next.
func (w *walk) stuckAt(token api.Token) stuck {
	switch token.Kind {
	case api.TokInput, api.TokOutput, api.TokNot:
		// A name that goes on behind a reserved word could still come.
		if w.asks(api.TokName) {
			return stuck(token.End)
		}
		fallthrough
	default:
		// No other token begins as one of another kind does.
		return stuck(token.At)
	}
}

// stuckBehind is of a text in which no whole token is left: something is wanting, or what comes is the beginning of none, or is open.
func (w *walk) stuckBehind() stuck {
	if w.open.Kind != 0 && !w.asks(w.open.Kind) {
		return stuck(w.open.At)
	}
	return stuck(w.far)
}
