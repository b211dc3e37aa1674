package normal

import "slices"

// openIn tells the unknowns of a piece in whose places nothing is put.
func (s *search) openIn(piece int) []int {
	var list []int
	for k, place := range s.slots[piece] {
		if place.first == k && s.isOpen(place.unknown) {
			list = append(list, place.unknown)
		}
	}
	return list
}

// parts are those of these pieces that have an open unknown, those that hang together by such ones in one part.
func (s *search) parts(pieces []int) [][]int {
	var all [][]int
	met, reached := map[int]struct{}{}, map[int]struct{}{}
	for _, first := range pieces {
		if _, is := met[first]; is || len(s.openIn(first)) == 0 {
			continue
		}
		met[first] = struct{}{}
		part := []int{first}
		for i := 0; i < len(part); i++ {
			for _, unknown := range s.openIn(part[i]) {
				if _, is := reached[unknown]; is {
					continue
				}
				reached[unknown] = struct{}{}
				for _, other := range s.at[unknown] {
					if _, is := met[other]; !is {
						met[other] = struct{}{}
						part = append(part, other)
					}
				}
			}
		}
		all = append(all, part)
	}
	return all
}

// areExchangeable tells whether the rows of a part stay the same when two terms are exchanged in all places of open unknowns: then the one leads somewhere, if the other one does.
func (s *search) areExchangeable(part []int, a, b int) bool {
	for _, piece := range part {
		for k, place := range s.slots[piece] {
			if !s.isOpen(place.unknown) {
				continue
			}
			for _, term := range [...]int{a, b} {
				for _, row := range s.tables[piece].with[k][term] {
					if s.mayHave(piece, row) && !s.mayHave(piece, s.exchange(piece, row, a, b)) {
						return false
					}
				}
			}
		}
	}
	return true
}

func (s *search) mayHave(piece int, row []int) bool {
	_, may := slices.BinarySearchFunc(s.rows[piece], row, slices.Compare)
	return may
}

// exchange is a row of a piece with a in the place of b, and b in that of a, where an open unknown stands.
func (s *search) exchange(piece int, row []int, a, b int) []int {
	other := slices.Clone(row)
	for k, place := range s.slots[piece] {
		switch {
		case !s.isOpen(place.unknown):
		case row[k] == a:
			other[k] = b
		case row[k] == b:
			other[k] = a
		}
	}
	return other
}
