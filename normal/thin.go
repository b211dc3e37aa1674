package normal

import (
	"iter"
	"slices"
	"strconv"
	"strings"

	"inkling/api"
)

// trait is what a piece shows of itself at first sight: its shape, where it has constants, and which ones. A rule that another one covers has a piece with each of that one's traits, whatever more these pieces have.
type trait struct {
	shape     shape
	where     string
	constants string
}

// whereConstants tells place by place whether a piece's term is a constant.
func whereConstants(p piece) string {
	var where []byte
	for _, term := range p.terms {
		if term.Var {
			where = append(where, '-')
		} else {
			where = append(where, '+')
		}
	}
	return string(where)
}

// traitAt is the trait of a piece that has constants at these places, of whatever else it has; false, if it has not.
func traitAt(p piece, where string) (trait, bool) {
	var constants strings.Builder
	for k := range len(where) {
		if where[k] != '+' {
			continue
		}
		if p.terms[k].Var {
			return trait{}, false
		}
		constants.WriteString(strconv.Itoa(len(p.terms[k].Text)))
		constants.WriteByte(':')
		constants.WriteString(p.terms[k].Text)
	}
	return trait{shape: p.shape, where: where, constants: constants.String()}, true
}

// traitsOf are the traits of a rule's pieces, each with all its constants.
func traitsOf(r api.Rule) []trait {
	var all []trait
	for _, p := range pieces(r) {
		own, _ := traitAt(p, whereConstants(p))
		all = append(all, own)
	}
	return all
}

// shelf has rules by one trait of each, which is as rare as may be, so that a rule is held against few others; and by shapes, where the traits that it goes by have constants.
type shelf struct {
	rules map[trait][]int
	where map[shape][]string
}

func shelfOf(rules []api.Rule) shelf {
	counts := map[trait]int{}
	for _, rule := range rules {
		for _, each := range traitsOf(rule) {
			counts[each]++
		}
	}
	s := shelf{rules: map[trait][]int{}, where: map[shape][]string{}}
	met := map[trait]struct{}{}
	for i, rule := range rules {
		rarest := slices.MinFunc(traitsOf(rule), func(a, b trait) int { return counts[a] - counts[b] })
		s.rules[rarest] = append(s.rules[rarest], i)
		rarest.constants = ""
		if _, is := met[rarest]; !is {
			met[rarest] = struct{}{}
			s.where[rarest.shape] = append(s.where[rarest.shape], rarest.where)
		}
	}
	return s
}

// mayCover tells the rules that may cover one, as far as can be seen by their traits.
func (s shelf) mayCover(r api.Rule) iter.Seq[int] {
	return func(yield func(int) bool) {
		looked := map[trait]struct{}{}
		for _, p := range waysRound(r) {
			for _, where := range s.where[p.shape] {
				found, ok := traitAt(p, where)
				if _, again := looked[found]; !ok || again {
					continue
				}
				looked[found] = struct{}{}
				for _, rule := range s.rules[found] {
					if !yield(rule) {
						return
					}
				}
			}
		}
	}
}

// waysRound are a rule's pieces; those whose last two terms may be exchanged also with these exchanged.
func waysRound(r api.Rule) []piece {
	var all []piece
	for _, p := range pieces(r) {
		all = append(all, p)
		if p.shape.bothWays() {
			all = append(all, piece{shape: p.shape, terms: exchanged(p.terms)})
		}
	}
	return all
}

// uncovered are the numbers of the rules that are left, when each that another one of those left covers is left out, from the last one to the first.
func uncovered(rules []api.Rule) []int {
	var patterns []pattern
	for _, rule := range rules {
		patterns = append(patterns, patternOf(rule))
	}
	shelf := shelfOf(rules)
	gone := make([]bool, len(rules))
	for i, rule := range slices.Backward(rules) {
		has := stockOf(rule).has
		for other := range shelf.mayCover(rule) {
			if other != i && !gone[other] && has(patterns[other]) {
				gone[i] = true
				break
			}
		}
	}
	var left []int
	for i := range rules {
		if !gone[i] {
			left = append(left, i)
		}
	}
	return left
}
