package normal

import (
	"slices"

	"inkling/api"
)

// many rows are more than a rule in form has of a shape, unlike literals counted both ways. Of so many, terms are left out just as far as others are put: to leave out all that can be would take too long.
const many = 2 * api.MaxBody

// narrow goes through these pieces, and through those that share an unknown with one that was narrowed, until nothing can be left out any more; false, if nothing is left for one.
func (s *search) narrow(pieces []int) bool {
	queue := slices.Clone(pieces)
	waiting := map[int]struct{}{}
	for _, i := range queue {
		waiting[i] = struct{}{}
	}
	for len(queue) > 0 {
		next := queue[0]
		queue = queue[1:]
		delete(waiting, next)
		limited, ok := s.revise(next)
		if !ok {
			return false
		}
		for _, unknown := range limited {
			for _, other := range s.at[unknown] {
				if _, waits := waiting[other]; !waits && other != next {
					waiting[other] = struct{}{}
					queue = append(queue, other)
				}
			}
		}
	}
	return true
}

// revise leaves a piece the rows that go with what is known of its unknowns, and these the terms of the rows; it tells which ones it limited; false, if no row is left.
func (s *search) revise(piece int) (limited []int, ok bool) {
	rows := s.rowsLeft(piece)
	if len(rows) == 0 {
		return nil, false
	}
	s.keep(piece, rows)
	if len(rows) > many {
		return nil, true
	}
	for k, place := range s.slots[piece] {
		if place.first < k || !s.isOpen(place.unknown) {
			continue
		}
		if terms := s.column(rows, k); len(terms) < s.width(place.unknown) {
			s.limit(place.unknown, terms)
			limited = append(limited, place.unknown)
		}
	}
	return limited, true
}

func (s *search) rowsLeft(piece int) [][]int {
	rows := s.fewestRows(piece)
	for k, place := range s.slots[piece] {
		switch {
		case s.isEverywhere(piece, k):
		case place.first < k:
			rows = filtered(rows, func(row []int) bool { return row[k] == row[place.first] })
		case s.may[place.unknown] != nil:
			s.looks++
			for _, term := range s.may[place.unknown] {
				s.seen[term] = s.looks
			}
			rows = filtered(rows, func(row []int) bool { return s.seen[row[k]] == s.looks })
		}
	}
	return rows
}

// isEverywhere tells whether all that there is for a piece has, at one of its places, the term that is put there.
func (s *search) isEverywhere(piece, k int) bool {
	term, put := s.fit[s.slots[piece][k].unknown]
	return put && len(s.tables[piece].with[k][term]) == len(s.tables[piece].rows)
}

// fewestRows are some rows among which all are that a piece may have: those that it had last, or those with a term that is put at one of its places.
func (s *search) fewestRows(piece int) [][]int {
	fewest := s.rows[piece]
	for k, place := range s.slots[piece] {
		if term, put := s.fit[place.unknown]; put {
			if rows := s.tables[piece].with[k][term]; len(rows) < len(fewest) {
				fewest = rows
			}
		}
	}
	return fewest
}

// filtered are the rows that a function takes; if it takes all, it is the list itself.
func filtered(rows [][]int, takes func(row []int) bool) [][]int {
	if !slices.ContainsFunc(rows, func(row []int) bool { return !takes(row) }) {
		return rows
	}
	var kept [][]int
	for _, row := range rows {
		if takes(row) {
			kept = append(kept, row)
		}
	}
	return kept
}

// column is which terms stand at a place of rows.
func (s *search) column(rows [][]int, k int) []int {
	var terms []int
	s.looks++
	for _, row := range rows {
		if s.seen[row[k]] != s.looks {
			s.seen[row[k]] = s.looks
			terms = append(terms, row[k])
		}
	}
	return terms
}
