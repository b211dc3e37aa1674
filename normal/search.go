package normal

import (
	"iter"
	"math"
	"slices"
)

// search looks for terms in the places of a pattern's variables. It always knows which rows each piece, and which terms each unknown may still have, and leaves out what has no match in the others: so most that leads nowhere is never tried.
type search struct {
	pattern
	tables []*table // what there is for each piece
	rows   [][][]int
	fit    map[int]int // what is put in the places of unknowns
	may    [][]int     // which terms each unknown may have; nil while that is not known
	seen   []int       // the last look that met each term
	looks  int
	tries  bool // whether something may have to be taken back
	trail  []func()
}

// isOpen tells whether nothing is put in an unknown's place.
func (s *search) isOpen(unknown int) bool {
	_, put := s.fit[unknown]
	return !put
}

// solve tells whether the rest of these pieces can be fitted in. Parts that share no open unknown any more are fitted in one by one: whatever one of them takes, the others have the same choice.
func (s *search) solve(pieces []int) bool {
	for _, part := range s.parts(pieces) {
		if !s.solvePart(part) {
			return false
		}
	}
	return true
}

// solvePart tries the terms of one unknown, but none that is to the part as one that was tried in vain.
func (s *search) solvePart(part []int) bool {
	unknown := s.narrowest(part)
	var vain []int
	for term := range s.choice(unknown) {
		if slices.ContainsFunc(vain, func(other int) bool { return s.areExchangeable(part, other, term) }) {
			continue
		}
		back := s.mark()
		s.limit(unknown, []int{term})
		if s.narrow(s.at[unknown]) && s.solve(part) {
			return true
		}
		back()
		vain = append(vain, term)
	}
	return false
}

// choice tells the terms that an open unknown may have; where that is not known, those that it has in the fewest rows.
func (s *search) choice(unknown int) iter.Seq[int] {
	if s.may[unknown] != nil {
		return slices.Values(s.may[unknown])
	}
	piece := slices.MinFunc(s.at[unknown], func(a, b int) int { return len(s.rows[a]) - len(s.rows[b]) })
	k := slices.IndexFunc(s.slots[piece], func(place slot) bool { return place.unknown == unknown })
	rows := s.rows[piece]
	return func(yield func(int) bool) {
		met := map[int]struct{}{}
		for _, row := range rows {
			if _, again := met[row[k]]; again {
				continue
			}
			met[row[k]] = struct{}{}
			if !yield(row[k]) {
				return
			}
		}
	}
}

// narrowest is the open unknown of a part that has the least choice; of several, one that stands in the most pieces.
func (s *search) narrowest(part []int) int {
	best := -1
	for _, piece := range part {
		for _, unknown := range s.openIn(piece) {
			if best < 0 || s.isNarrower(unknown, best) {
				best = unknown
			}
		}
	}
	return best
}

func (s *search) isNarrower(a, b int) bool {
	if s.width(a) != s.width(b) {
		return s.width(a) < s.width(b)
	}
	return len(s.at[a]) > len(s.at[b])
}

// width is how many terms an unknown may have.
func (s *search) width(unknown int) int {
	if s.may[unknown] == nil {
		return math.MaxInt
	}
	return len(s.may[unknown])
}

// mark tells how to go back to where the search stands now.
func (s *search) mark() (back func()) {
	height := len(s.trail)
	s.tries = true
	return func() {
		for len(s.trail) > height {
			last := len(s.trail) - 1
			s.trail[last]()
			s.trail = s.trail[:last]
		}
	}
}

// undoBy keeps how to take back what was just done. What is done ahead of the first try is never taken back.
func (s *search) undoBy(undo func()) {
	if s.tries {
		s.trail = append(s.trail, undo)
	}
}

// limit leaves an unknown these terms alone; where there is one, it is put in its place.
func (s *search) limit(unknown int, terms []int) {
	was := s.may[unknown]
	s.may[unknown] = terms
	s.undoBy(func() { s.may[unknown] = was })
	if len(terms) == 1 {
		s.fit[unknown] = terms[0]
		s.undoBy(func() { delete(s.fit, unknown) })
	}
}

// keep leaves a piece these rows alone.
func (s *search) keep(piece int, rows [][]int) {
	was := s.rows[piece]
	if len(rows) < len(was) {
		s.rows[piece] = rows
		s.undoBy(func() { s.rows[piece] = was })
	}
}
