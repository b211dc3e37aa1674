package roles

import (
	"slices"
	"strings"

	"inkling/api"
)

// tuplesOf are the tuples of each predicate that the relations and the program's own facts give, as they are handed in and in no order.
func tuplesOf(p api.Program, l []api.Relation) map[string][][]string {
	tuples := map[string][][]string{}
	for _, relation := range l {
		// A list of its own: it is sorted.
		tuples[relation.Pred] = slices.Clone(relation.Tuples)
	}
rules:
	for _, rule := range p.Rules {
		if len(rule.Body) > 0 {
			continue
		}
		tuple := make([]string, 0, len(rule.Head.Args))
		for _, term := range rule.Head.Args {
			if term.Var {
				continue rules
			}
			tuple = append(tuple, term.Text)
		}
		tuples[rule.Head.Pred] = append(tuples[rule.Head.Pred], tuple)
	}
	return tuples
}

// relationOf is a predicate's relation; the list of its tuples is sorted where it is.
func relationOf(role api.Role, tuples [][]string) api.Relation {
	slices.SortFunc(tuples, slices.Compare[[]string])
	relation := api.Relation{Pred: role.Pred, Arity: role.Arity}
	for _, tuple := range slices.CompactFunc(tuples, slices.Equal[[]string]) {
		relation.Tuples = append(relation.Tuples, copyTuple(tuple))
	}
	return relation
}

func copyTuple(tuple []string) []string {
	constants := make([]string, 0, len(tuple))
	for _, constant := range tuple {
		constants = append(constants, strings.Clone(constant))
	}
	return constants
}
