package join

import (
	"bytes"
	"slices"
	"strings"

	"inkling/api"
)

// The measure: stores as lists of facts, and matches found by putting every constant in the place of every variable, as the chapter's words go.

type plainStore []api.Fact

func sameFact(a, b api.Fact) bool { return a.Pred == b.Pred && slices.Equal(a.Tuple, b.Tuple) }

func (s plainStore) has(f api.Fact) bool {
	return slices.ContainsFunc(s, func(other api.Fact) bool { return sameFact(f, other) })
}

func (s *plainStore) add(f api.Fact) bool {
	if s.has(f) {
		return false
	}
	*s = append(*s, api.Fact{Pred: f.Pred, Tuple: slices.Clone(f.Tuple)})
	return true
}

func (s plainStore) tuples(pred string, arity int) [][]string {
	var all [][]string
	for _, f := range s {
		if f.Pred == pred && len(f.Tuple) == arity {
			all = append(all, f.Tuple)
		}
	}
	return all
}

// plainCompare goes by the bytes of constants, the first that differ.
func plainCompare(a, b []string) int {
	for i := range min(len(a), len(b)) {
		if c := bytes.Compare([]byte(a[i]), []byte(b[i])); c != 0 {
			return c
		}
	}
	return len(a) - len(b)
}

func (s plainStore) model() []api.Relation {
	var all []api.Relation
	for _, f := range s {
		i := slices.IndexFunc(all, func(r api.Relation) bool { return r.Pred == f.Pred && r.Arity == len(f.Tuple) })
		if i < 0 {
			i = len(all)
			all = append(all, api.Relation{Pred: f.Pred, Arity: len(f.Tuple)})
		}
		all[i].Tuples = append(all[i].Tuples, f.Tuple)
	}
	slices.SortStableFunc(all, func(a, b api.Relation) int {
		if a.Pred == b.Pred {
			return a.Arity - b.Arity
		}
		return bytes.Compare([]byte(a.Pred), []byte(b.Pred))
	})
	for _, r := range all {
		slices.SortStableFunc(r.Tuples, plainCompare)
	}
	return all
}

func plainTerms(r api.Rule) []api.Term {
	all := slices.Clone(r.Head.Args)
	for _, l := range r.Body {
		all = append(all, l.Atom.Args...)
		all = append(all, l.Left, l.Right)
	}
	return all
}

func plainVars(r api.Rule) []string {
	var all []string
	for _, term := range plainTerms(r) {
		if term.Var && !slices.Contains(all, term.Text) {
			all = append(all, term.Text)
		}
	}
	return all
}

func plainPositives(r api.Rule) int {
	count := 0
	for _, l := range r.Body {
		if l.Kind == api.Positive {
			count++
		}
	}
	return count
}

// plainWord asks for a first byte of these, and then for letters, digits and strokes.
func plainWord(text, first string) bool {
	const letters = "abcdefghijklmnopqrstuvwxyzABCDEFGHIJKLMNOPQRSTUVWXYZ0123456789_"
	return text != "" && len(text) <= 64 && strings.Contains(first, text[:1]) && strings.Trim(text, letters) == ""
}

func plainName(text string) bool {
	return plainWord(text, "abcdefghijklmnopqrstuvwxyz") && text != "input" && text != "output" && text != "not"
}

func plainMayAdd(f api.Fact) bool {
	return plainName(f.Pred) && len(f.Tuple) <= 16 && !slices.ContainsFunc(f.Tuple, func(text string) bool { return len(text) > 1024 })
}

func plainAtom(a api.Atom) bool {
	return plainName(a.Pred) && len(a.Args) <= 16 && !slices.ContainsFunc(a.Args, func(t api.Term) bool { return !plainTerm(t) })
}

func plainTerm(t api.Term) bool {
	if t.Var {
		return plainWord(t.Text, "ABCDEFGHIJKLMNOPQRSTUVWXYZ")
	}
	return len(t.Text) <= 1024
}

func plainFormed(r api.Rule) bool {
	if !plainAtom(r.Head) || len(r.Body) > 256 {
		return false
	}
	for _, l := range r.Body {
		isAtom := l.Kind == api.Positive || l.Kind == api.Negative
		noTerms := l.Left == api.Term{} && l.Right == api.Term{}
		noAtom := l.Atom.Pred == "" && len(l.Atom.Args) == 0
		if !(isAtom && plainAtom(l.Atom) && noTerms) && !(l.Kind == api.Unlike && plainTerm(l.Left) && plainTerm(l.Right) && noAtom) {
			return false
		}
	}
	return true
}

func plainSafe(r api.Rule) bool {
	var bound []api.Term
	for _, l := range r.Body {
		if l.Kind == api.Positive {
			bound = append(bound, l.Atom.Args...)
		}
	}
	return !slices.ContainsFunc(plainTerms(r), func(t api.Term) bool { return t.Var && !slices.Contains(bound, t) })
}

func plainCompile(r api.Rule) api.Errno {
	switch {
	case !plainFormed(r):
		return api.ErrArg
	case !plainSafe(r):
		return api.ErrUnsafe
	}
	return api.OK
}

// plainMatches are all matches, if the positive number i is looked for in of(i). A safe rule's variables can have no constants but those of the tuples that its positives find.
func plainMatches(r api.Rule, of func(i int) plainStore, not plainStore) []api.Match {
	var constants []string
	for i := range plainPositives(r) {
		for _, f := range of(i) {
			for _, text := range f.Tuple {
				if !slices.Contains(constants, text) {
					constants = append(constants, text)
				}
			}
		}
	}
	vars := plainVars(r)
	var all []api.Match
	var put func(values []string)
	put = func(values []string) {
		if len(values) < len(vars) {
			for _, text := range constants {
				put(append(slices.Clip(values), text))
			}
			return
		}
		if plainHolds(r, vars, values, of, not) {
			all = append(all, api.Match{Head: plainTuple(r.Head, vars, values), Values: values})
		}
	}
	put(nil)
	return all
}

func plainText(t api.Term, vars, values []string) string {
	if t.Var {
		return values[slices.Index(vars, t.Text)]
	}
	return t.Text
}

func plainTuple(a api.Atom, vars, values []string) []string {
	var all []string
	for _, term := range a.Args {
		all = append(all, plainText(term, vars, values))
	}
	return all
}

func plainHolds(r api.Rule, vars, values []string, of func(i int) plainStore, not plainStore) bool {
	positive := 0
	for _, l := range r.Body {
		f := api.Fact{Pred: l.Atom.Pred, Tuple: plainTuple(l.Atom, vars, values)}
		switch l.Kind {
		case api.Positive:
			if !of(positive).has(f) {
				return false
			}
			positive++
		case api.Negative:
			if not.has(f) {
				return false
			}
		case api.Unlike:
			if plainText(l.Left, vars, values) == plainText(l.Right, vars, values) {
				return false
			}
		}
	}
	return true
}
