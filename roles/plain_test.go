package roles

import (
	"cmp"
	"regexp"
	"slices"
	"sort"

	"inkling/api"
)

// What stands here goes by the document's words alone, one after the other and without a map: a measure for what the package answers.

var (
	nameForm     = regexp.MustCompile(`^[a-z][a-zA-Z0-9_]{0,63}$`)
	variableForm = regexp.MustCompile(`^[A-Z][a-zA-Z0-9_]{0,63}$`)
	reservedForm = regexp.MustCompile(`^(input|output|not)$`)
)

func plainName(s string) bool {
	return nameForm.MatchString(s) && !reservedForm.MatchString(s)
}

func plainTerm(t api.Term) bool {
	return t.Var && variableForm.MatchString(t.Text) || !t.Var && len(t.Text) <= 1024
}

func plainAtom(a api.Atom) bool {
	return plainName(a.Pred) && len(a.Args) <= 16 && countOf(a.Args, plainTerm) == len(a.Args)
}

func plainLiteral(l api.Literal) bool {
	noAtom := l.Atom.Pred == "" && len(l.Atom.Args) == 0
	noTerms := !l.Left.Var && !l.Right.Var && l.Left.Text+l.Right.Text == ""
	isAtom := l.Kind == 1 || l.Kind == 2
	return isAtom && plainAtom(l.Atom) && noTerms || l.Kind == 3 && plainTerm(l.Left) && plainTerm(l.Right) && noAtom
}

func plainRule(r api.Rule) bool {
	return len(r.Body) <= 256 && plainAtom(r.Head) && countOf(r.Body, plainLiteral) == len(r.Body)
}

func countOf[T any](list []T, is func(T) bool) int {
	count := 0
	for _, x := range list {
		if is(x) {
			count++
		}
	}
	return count
}

// stand is a predicate with its arity at one place.
type stand struct {
	pred  string
	arity int
}

// statement is what the document says of one of a program's statements.
type statement struct {
	spot    api.Spot // without a predicate
	inForm  bool
	stands  []stand
	gives   string // the predicate that it may not give, if that is derived
	derives string
}

func plainStatements(p api.Program) []statement {
	var all []statement
	isArity := func(n int) bool { return n >= 0 && n <= 16 }
	for i, x := range p.Inputs {
		all = append(all, statement{api.Spot{Part: 1, Index: i}, plainName(x.Pred) && isArity(x.Arity) && len(x.File) <= 1024, []stand{{x.Pred, x.Arity}}, x.Pred, ""})
	}
	for i, x := range p.Outputs {
		all = append(all, statement{api.Spot{Part: 2, Index: i}, plainName(x.Pred) && isArity(x.Arity), []stand{{x.Pred, x.Arity}}, "", ""})
	}
	for i, x := range p.Rules {
		s := statement{api.Spot{Part: 3, Index: i}, plainRule(x), []stand{{x.Head.Pred, len(x.Head.Args)}}, x.Head.Pred, ""}
		for _, l := range x.Body {
			s.gives, s.derives = "", x.Head.Pred
			if l.Kind == 1 || l.Kind == 2 {
				s.stands = append(s.stands, stand{l.Atom.Pred, len(l.Atom.Args)})
			}
		}
		all = append(all, s)
	}
	return all
}

func plainFormed(p api.Program) bool {
	all := plainStatements(p)
	return countOf(all, func(s statement) bool { return s.inForm }) == len(all)
}

func plainCheck(p api.Program) (api.Spot, api.Errno) {
	all := plainStatements(p)
	var stood []stand
	derived := func(pred string) bool {
		return slices.ContainsFunc(all, func(s statement) bool { return s.derives == pred })
	}
	for _, s := range all {
		if !s.inForm {
			return s.spot, 2
		}
	}
	for _, s := range all {
		for _, here := range s.stands {
			first := slices.IndexFunc(stood, func(x stand) bool { return x.pred == here.pred })
			if first >= 0 && stood[first].arity != here.arity {
				s.spot.Pred = here.pred
				return s.spot, 12
			}
			stood = append(stood, here)
		}
	}
	for _, s := range all {
		if s.gives != "" && derived(s.gives) {
			s.spot.Pred = s.gives
			return s.spot, 13
		}
	}
	return api.Spot{}, 0
}

// plainRoles is of a program that plainCheck takes.
func plainRoles(p api.Program) []api.Role {
	var all []api.Role
	for _, s := range plainStatements(p) {
		for _, x := range s.stands {
			role := api.Role{Pred: x.pred, Arity: x.arity}
			role.Inputs = countOf(p.Inputs, func(i api.Input) bool { return i.Pred == x.pred })
			role.Outputs = countOf(p.Outputs, func(o api.Output) bool { return o.Pred == x.pred })
			role.Facts = countOf(p.Rules, func(r api.Rule) bool { return r.Head.Pred == x.pred && len(r.Body) == 0 })
			role.Rules = countOf(p.Rules, func(r api.Rule) bool { return r.Head.Pred == x.pred && len(r.Body) != 0 })
			role.Derived = role.Rules > 0
			if !slices.Contains(all, role) {
				all = append(all, role)
			}
		}
	}
	sort.Slice(all, func(i, j int) bool { return all[i].Pred < all[j].Pred })
	return all
}

// plainBefore tells whether the tuple a, of b's length, comes ahead of b.
func plainBefore(a, b []string) bool {
	for i := range a {
		if a[i] != b[i] {
			return a[i] < b[i]
		}
	}
	return false
}

func plainFacts(p api.Program, l []api.Relation) api.Errno {
	if _, e := plainCheck(p); e != 0 {
		return 4
	}
	all := plainRoles(p)
	for i, r := range l {
		given := func(x api.Role) bool { return x.Pred == r.Pred && !x.Derived && x.Arity == r.Arity }
		short := func(tuple []string) bool { return len(tuple) == r.Arity && plainShort(tuple) }
		if i > 0 && l[i-1].Pred >= r.Pred || !slices.ContainsFunc(all, given) || countOf(r.Tuples, short) < len(r.Tuples) {
			return 5
		}
		for k := 1; k < len(r.Tuples); k++ {
			if !plainBefore(r.Tuples[k-1], r.Tuples[k]) {
				return 5
			}
		}
	}
	return 0
}

func plainShort(texts []string) bool {
	return countOf(texts, func(s string) bool { return len(s) <= 1024 }) == len(texts)
}

// plainGiven is of a program and its facts.
func plainGiven(p api.Program, l []api.Relation) []api.Relation {
	var all []api.Relation
	for _, role := range plainRoles(p) {
		if role.Derived {
			continue
		}
		given := api.Relation{Pred: role.Pred, Arity: role.Arity}
		put := func(tuple []string) {
			same := func(other []string) bool { return slices.Equal(other, tuple) }
			if !slices.ContainsFunc(given.Tuples, same) {
				given.Tuples = append(given.Tuples, tuple)
			}
		}
		for _, r := range l {
			if r.Pred == role.Pred {
				given.Tuples = append(given.Tuples, r.Tuples...)
			}
		}
		for _, r := range p.Rules {
			isVar := func(t api.Term) bool { return t.Var }
			if r.Head.Pred == role.Pred && len(r.Body) == 0 && countOf(r.Head.Args, isVar) == 0 {
				tuple := []string{}
				for _, t := range r.Head.Args {
					tuple = append(tuple, t.Text)
				}
				put(tuple)
			}
		}
		sort.SliceStable(given.Tuples, func(i, j int) bool { return plainBefore(given.Tuples[i], given.Tuples[j]) })
		all = append(all, given)
	}
	return all
}

// plainConstants is of a program and its facts.
func plainConstants(p api.Program, l []api.Relation) []string {
	var terms []api.Term
	for _, r := range p.Rules {
		terms = append(terms, r.Head.Args...)
		for _, x := range r.Body {
			switch x.Kind {
			case 1, 2:
				terms = append(terms, x.Atom.Args...)
			case 3:
				terms = append(terms, x.Left, x.Right)
			}
		}
	}
	for _, r := range l {
		for _, tuple := range r.Tuples {
			for _, c := range tuple {
				terms = append(terms, api.Term{Text: c})
			}
		}
	}
	terms = slices.DeleteFunc(terms, func(t api.Term) bool { return t.Var })
	slices.SortFunc(terms, func(a, b api.Term) int { return cmp.Compare(a.Text, b.Text) })
	var texts []string
	for _, t := range slices.Compact(terms) {
		texts = append(texts, t.Text)
	}
	return texts
}
