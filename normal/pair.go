package normal

import (
	"slices"
	"strconv"
)

// pair is two rules beside one another. Their variables have colours: variables of two colours can't be renamed to one another; a colour that one variable of each rule has alone says that these two belong together.
type pair struct {
	labels []int // what each piece is beside its terms
	both   []bool
	places [][]int // each piece's terms: variables by their numbers, constants by numbers below 0
	at     [][]int // in which pieces each variable stands; in one twice, if it stands there twice
	rule   []int   // which of the two rules each variable is of
	colour []int
	sizes  [][2]int // how many variables of each rule have a colour
	trail  []func() // what undoes all that was painted since
}

// besideOneAnother is two rules' pieces as a pair, all variables of one colour.
func besideOneAnother(first, second []piece) *pair {
	p := &pair{sizes: make([][2]int, 1)}
	labels, constants := map[shape]int{}, numbers[string]{}
	for rule, all := range [][]piece{first, second} {
		names, base := numbers[string]{}, len(p.at)
		for _, piece := range all {
			if _, met := labels[piece.shape]; !met {
				labels[piece.shape] = len(labels)
			}
			var places []int
			for _, term := range piece.terms {
				if !term.Var {
					places = append(places, ^constants.of(term.Text))
					continue
				}
				places = append(places, base+names.of(term.Text))
			}
			p.put(labels[piece.shape], piece.shape.bothWays(), places, rule)
		}
	}
	return p
}

// put puts a piece of a rule behind the others, and with it the variables that are new.
func (p *pair) put(label int, both bool, places []int, rule int) {
	p.labels = append(p.labels, label)
	p.both = append(p.both, both)
	p.places = append(p.places, places)
	for _, variable := range places {
		if variable < 0 {
			continue
		}
		if variable == len(p.at) {
			p.at = append(p.at, nil)
			p.rule = append(p.rule, rule)
			p.colour = append(p.colour, 0)
			p.sizes[0][rule]++
		}
		p.at[variable] = append(p.at[variable], len(p.places)-1)
	}
}

// fit tells whether the variables of the two rules can be put together one to one, so that the pieces with variables are the same.
func (p *pair) fit() bool {
	var first, second []int
	for variable, rule := range p.rule {
		if rule == 0 {
			first = append(first, variable)
		} else {
			second = append(second, variable)
		}
	}
	return len(first) == len(second) && p.refine(slices.Concat(first, second)) && p.fitAll(first, second)
}

// isOpen tells whether a variable does not yet belong to one of the other rule.
func (p *pair) isOpen(variable int) bool { return p.sizes[p.colour[variable]] != [2]int{1, 1} }

// fitAll puts the rest of these variables of the one rule together with those of the other, cluster by cluster. If one cluster fits another, it may stay there, whatever else it would fit: those that fit it are all the same.
func (p *pair) fitAll(first, second []int) bool {
	left, right := p.clusters(first), p.clusters(second)
	if !slices.EqualFunc(left, right, cluster.hasColoursOf) {
		return false
	}
	for i, one := range left {
		k := i
		for k < len(right) && one.hasColoursOf(right[k]) && !p.fitTwo(one, right[k]) {
			k++
		}
		if k == len(right) || !one.hasColoursOf(right[k]) {
			return false
		}
		right[i], right[k] = right[k], right[i]
	}
	return true
}

// fitTwo tries which variable of the other cluster one variable of this one belongs to.
func (p *pair) fitTwo(one, other cluster) bool {
	variable, colour := one.rarest()
	for i, candidate := range other.variables {
		if other.colours[i] != colour {
			continue
		}
		back := p.mark()
		both := []int{variable, candidate}
		p.paintAll(both, p.newColour())
		if p.refine(both) && p.fitAll(one.variables, other.variables) {
			return true
		}
		back()
	}
	return false
}

// mark tells how to go back to the colours of now.
func (p *pair) mark() (back func()) {
	height := len(p.trail)
	return func() {
		for len(p.trail) > height {
			last := len(p.trail) - 1
			p.trail[last]()
			p.trail = p.trail[:last]
		}
	}
}

func (p *pair) newColour() int {
	p.sizes = append(p.sizes, [2]int{})
	p.trail = append(p.trail, func() { p.sizes = p.sizes[:len(p.sizes)-1] })
	return len(p.sizes) - 1
}

func (p *pair) paintAll(variables []int, colour int) {
	for _, variable := range variables {
		was := p.colour[variable]
		p.paint(variable, colour)
		p.trail = append(p.trail, func() { p.paint(variable, was) })
	}
}

func (p *pair) paint(variable, colour int) {
	p.sizes[p.colour[variable]][p.rule[variable]]--
	p.sizes[colour][p.rule[variable]]++
	p.colour[variable] = colour
}

// written is a list of numbers as a text that no other list has.
func written(list ...int) string {
	var text []byte
	for _, number := range list {
		text = append(strconv.AppendInt(text, int64(number), 36), ' ')
	}
	return string(text)
}
