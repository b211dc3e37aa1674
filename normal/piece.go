package normal

import (
	"slices"

	"inkling/api"
)

// shape is all of a piece but its terms.
type shape struct {
	head bool
	kind api.LitKind
	pred string
	args int
}

// piece is a rule's head, or a literal of its body: its shape, and its terms, a literal's Left and Right among them.
type piece struct {
	shape shape
	terms []api.Term
}

// pieces are a rule's head, and its literals in their order.
func pieces(r api.Rule) []piece {
	head := shape{head: true, pred: r.Head.Pred, args: len(r.Head.Args)}
	all := []piece{{shape: head, terms: r.Head.Args}}
	for _, literal := range r.Body {
		all = append(all, pieceOf(literal))
	}
	return all
}

func pieceOf(l api.Literal) piece {
	return piece{
		shape: shape{kind: l.Kind, pred: l.Atom.Pred, args: len(l.Atom.Args)},
		terms: slices.Concat(l.Atom.Args, []api.Term{l.Left, l.Right}),
	}
}

// bothWays tells whether a piece's last two terms may be exchanged; a head's shape has no kind.
func (s shape) bothWays() bool { return s.kind == api.Unlike }

// exchanged is a list with its last two things exchanged.
func exchanged[T any](list []T) []T {
	other := slices.Clone(list)
	last := len(other) - 1
	other[last-1], other[last] = other[last], other[last-1]
	return other
}

func samePiece(a, b piece) bool { return a.shape == b.shape && slices.Equal(a.terms, b.terms) }

// grounded are those of a rule's pieces that have no variable.
func grounded(all []piece) []piece {
	var some []piece
	for _, p := range all {
		if !slices.ContainsFunc(p.terms, isVariable) {
			some = append(some, p)
		}
	}
	return some
}

func isVariable(t api.Term) bool { return t.Var }
