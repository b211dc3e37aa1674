package join

import (
	"cmp"
	"slices"
	"strings"

	"inkling/api"
	"inkling/relation"
	"inkling/roles"
	"inkling/tuple"
)

// Store: tuples in the store's own numbers, a relation for each kind of which there is one. The map is nil in a store that no call here made.
type Store struct {
	numbering
	relations map[kind]*relation.Relation
	facts     int
}

// kind is a predicate with a length: its tuples of another length are none of it.
type kind struct {
	pred  string
	arity int
}

func kindOf(f api.Fact) kind { return kind{f.Pred, len(f.Tuple)} }

func noRelations() map[kind]*relation.Relation { return map[kind]*relation.Relation{} }

func (s *Store) made() bool { return s != nil && s.relations != nil }

// isFact tells whether a fact may stand in a store: whether a rule that says it would be in form.
func isFact(f api.Fact) bool {
	if len(f.Tuple) > api.MaxArity {
		return false
	}
	head := api.Atom{Pred: f.Pred, Args: make([]api.Term, len(f.Tuple))}
	for i, text := range f.Tuple {
		head.Args[i].Text = text
	}
	return roles.FormedRule(api.Rule{Head: head})
}

// relation makes a kind's relation when its first tuple comes.
func (s *Store) relation(k kind) *relation.Relation {
	if tuples, there := s.relations[k]; there {
		return tuples
	}
	tuples, _ := relation.New(k.arity)
	s.relations[kind{strings.Clone(k.pred), k.arity}] = tuples
	return tuples
}

// kinds are those of which there is a tuple, rising.
func (s *Store) kinds() []kind {
	var all []kind
	for k := range s.relations {
		all = append(all, k)
	}
	slices.SortFunc(all, func(a, b kind) int {
		return cmp.Or(strings.Compare(a.pred, b.pred), a.arity-b.arity)
	})
	return all
}

// shelf is what a store has of a kind at one time: the tuples at the places below far. A relation that is not there is nil, and has none.
type shelf struct {
	numbering
	tuples *relation.Relation
	far    int
}

func (s *Store) shelf(k kind) shelf {
	if !s.made() {
		return shelf{}
	}
	tuples := s.relations[k]
	return shelf{numbering: s.numbering, tuples: tuples, far: tuples.Len()}
}

func (s shelf) has(numbers []int) bool {
	place, there := s.tuples.Place(numbers)
	return there && place < s.far
}

// rising are the tuples in order. They are held against one another by their texts' ranks, so that texts are compared once for the whole store; rising has the number of each rank.
func (s shelf) rising(ranks, rising []int) [][]string {
	var rows [][]int
	for _, numbers := range s.tuples.All(0, s.far) {
		rows = append(rows, through(ranks, numbers))
	}
	slices.SortFunc(rows, tuple.Compare[int])
	all := make([][]string, len(rows))
	for i, row := range rows {
		all[i] = s.texts(through(rising, row))
	}
	return all
}

// through is what a list has at places.
func through(list, places []int) []int {
	all := make([]int, len(places))
	for i, place := range places {
		all[i] = list[place]
	}
	return all
}
