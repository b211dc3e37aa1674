package strata

import (
	"cmp"
	"slices"

	"inkling/api"
	"inkling/graph"
)

// levels are predicates by parts: those of one part hang on one another, so they have one stratum.
type levels struct {
	parts map[string]int // each predicate's part; a part hangs on none above it
	least []int          // each part's least stratum
}

func (l levels) of(pred string) int { return l.least[l.parts[pred]] }

// levelsOf are the least strata, and true, if there are any.
func levelsOf(all []api.Role, deps []api.Dep) (levels, bool) {
	l := partsOf(all, deps)
	return l, l.raise(deps)
}

// partsOf are the parts, all of them at the stratum 0.
func partsOf(all []api.Role, deps []api.Dep) levels {
	var preds []string
	for _, role := range all {
		preds = append(preds, role.Pred)
	}
	parts := graph.Parts(preds, edges(deps))
	l := levels{parts: map[string]int{}, least: make([]int, len(parts))}
	for number, part := range parts {
		for _, pred := range part {
			l.parts[pred] = number
		}
	}
	return l
}

// raise raises each part as far as the Deps ask for; false, if one of them asks for a part to be above itself.
func (l levels) raise(deps []api.Dep) bool {
	// By rising heads, whatever a part hangs on is raised ahead of it, so that each Dep is looked at once.
	upward := slices.SortedFunc(slices.Values(deps), func(a, b api.Dep) int { return cmp.Compare(l.parts[a.Head], l.parts[b.Head]) })
	ok := true
raise:
	for _, dep := range upward {
		head, body := l.parts[dep.Head], l.parts[dep.Body]
		switch {
		case head != body:
			l.least[head] = max(l.least[head], l.least[body]+sign(dep))
		case dep.Negative:
			ok = false
			break raise
		}
	}
	return ok
}

// strataOf are the strata by their predicates.
func strataOf(tiers []api.Tier) map[string]int {
	strata := map[string]int{}
	for _, tier := range tiers {
		strata[tier.Pred] = tier.Stratum
	}
	return strata
}

// tells tells whether there is just one stratum for each of the predicates, in their order, none below 0.
func tells(tiers []api.Tier, all []api.Role) bool {
	return slices.EqualFunc(tiers, all, func(tier api.Tier, role api.Role) bool {
		return tier.Pred == role.Pred && tier.Stratum >= 0
	})
}
