package strata

import (
	"slices"

	"inkling/api"
	"inkling/roles"
	"inkling/safe"
)

// What stands here goes by the document's words alone, without a map and without layer 13: a measure for what the package answers.

// plainPreds are all predicates that a program names, rising.
func plainPreds(p api.Program) []string {
	var preds []string
	for _, input := range p.Inputs {
		preds = append(preds, input.Pred)
	}
	for _, output := range p.Outputs {
		preds = append(preds, output.Pred)
	}
	for _, r := range p.Rules {
		preds = append(preds, r.Head.Pred)
		for _, l := range r.Body {
			if l.Kind != api.Unlike {
				preds = append(preds, l.Atom.Pred)
			}
		}
	}
	slices.Sort(preds)
	return slices.Compact(preds)
}

// plainSays tells whether a rule of the program gives the Dep.
func plainSays(p api.Program, dep api.Dep) bool {
	kind := api.Positive
	if dep.Negative {
		kind = api.Negative
	}
	return slices.ContainsFunc(p.Rules, func(r api.Rule) bool {
		return r.Head.Pred == dep.Head && slices.ContainsFunc(r.Body, func(l api.Literal) bool { return l.Kind == kind && l.Atom.Pred == dep.Body })
	})
}

// plainDeps asks for each Dep that there might be, in their order.
func plainDeps(p api.Program) []api.Dep {
	var deps []api.Dep
	for _, head := range plainPreds(p) {
		for _, body := range plainPreds(p) {
			for _, negative := range []bool{false, true} {
				if dep := (api.Dep{Head: head, Body: body, Negative: negative}); plainSays(p, dep) {
					deps = append(deps, dep)
				}
			}
		}
	}
	return deps
}

// plainLevels raises strata as long as a Dep asks for it; at as many as there are predicates they would rise for ever.
func plainLevels(p api.Program) ([]api.Tier, bool) {
	var tiers []api.Tier
	for _, pred := range plainPreds(p) {
		tiers = append(tiers, api.Tier{Pred: pred})
	}
	deps := plainDeps(p)
	for more := true; more; {
		more = false
		for _, dep := range deps {
			head, body := tierOf(tiers, dep.Head), tierOf(tiers, dep.Body)
			least := body.Stratum
			if dep.Negative {
				least++
			}
			if least >= len(tiers) {
				return nil, false
			}
			if head.Stratum < least {
				head.Stratum, more = least, true
			}
		}
	}
	return tiers, true
}

// tierOf is the tier of a predicate that has one.
func tierOf(tiers []api.Tier, pred string) *api.Tier {
	return &tiers[slices.IndexFunc(tiers, func(tier api.Tier) bool { return tier.Pred == pred })]
}

// plainParts goes from stratum to stratum, up to the greatest one.
func plainParts(p api.Program, tiers []api.Tier) [][]int {
	if len(tiers) == 0 {
		return nil
	}
	greatest := slices.MaxFunc(tiers, func(a, b api.Tier) int { return a.Stratum - b.Stratum }).Stratum
	parts := make([][]int, greatest+1)
	for stratum := range parts {
		for i, r := range p.Rules {
			if len(r.Body) > 0 && tierOf(tiers, r.Head.Pred).Stratum == stratum {
				parts[stratum] = append(parts[stratum], i)
			}
		}
	}
	return parts
}

// plainFits is P14.5, read word by word.
func plainFits(p api.Program, tiers []api.Tier) bool {
	if _, e := roles.Check(p); e != api.OK {
		return false
	}
	var preds []string
	for _, tier := range tiers {
		preds = append(preds, tier.Pred)
	}
	if !slices.Equal(preds, plainPreds(p)) {
		return false
	}
	for _, tier := range tiers {
		if tier.Stratum < 0 {
			return false
		}
	}
	for _, dep := range plainDeps(p) {
		head, body := tierOf(tiers, dep.Head).Stratum, tierOf(tiers, dep.Body).Stratum
		if head < body || dep.Negative && head <= body {
			return false
		}
	}
	return true
}

// plainWay tells how many Deps the shortest row has that leads from a predicate back to it, one of them negative; 0, if there is none. It keeps which predicates are come to in just so many steps, without a negative one and with one.
func plainWay(deps []api.Dep, home string, most int) int {
	without, with := []string{home}, []string{}
	for length := 1; length <= most; length++ {
		var nextWithout, nextWith []string
		for _, dep := range deps {
			switch {
			case slices.Contains(with, dep.Head), dep.Negative && slices.Contains(without, dep.Head):
				nextWith = append(nextWith, dep.Body)
			}
			if !dep.Negative && slices.Contains(without, dep.Head) {
				nextWithout = append(nextWithout, dep.Body)
			}
		}
		without, with = nextWithout, nextWith
		if slices.Contains(with, home) {
			return length
		}
	}
	return 0
}

// plainRound is how many Deps the shortest way round has; 0, if there is none. A way by more steps than twice the predicates passes one of them twice alike.
func plainRound(p api.Program) int {
	deps, preds := plainDeps(p), plainPreds(p)
	best := 0
	for _, home := range preds {
		if length := plainWay(deps, home, 2*len(preds)); length > 0 && (best == 0 || length < best) {
			best = length
		}
	}
	return best
}

// isRound tells whether Deps are a way round of the program.
func isRound(p api.Program, deps []api.Dep) bool {
	negative := false
	for i, dep := range deps {
		if !plainSays(p, dep) || dep.Body != deps[(i+1)%len(deps)].Head {
			return false
		}
		negative = negative || dep.Negative
	}
	return negative
}

// plainGood is P14.1, with the words of the layers below.
func plainGood(p api.Program) api.Errno {
	if _, e := roles.Check(p); e != api.OK {
		return e
	}
	for _, r := range p.Rules {
		if _, ok := safe.Rule(r); !ok {
			return api.ErrUnsafe
		}
	}
	if _, ok := plainLevels(p); !ok {
		return api.ErrCycle
	}
	return api.OK
}
