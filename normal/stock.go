package normal

import (
	"slices"

	"inkling/api"
)

// table is a rule's pieces of one shape, as rows of their terms' numbers, which rise; and, for each place, which rows have a term there.
type table struct {
	rows [][]int
	with []map[int][][]int
}

// stock is what a rule has for those who would cover it.
type stock struct {
	numbers numbers[api.Term]
	tables  map[shape]*table
}

func stockOf(r api.Rule) stock {
	s := stock{numbers: numbers[api.Term]{}, tables: map[shape]*table{}}
	for _, piece := range pieces(r) {
		var row []int
		for _, term := range piece.terms {
			row = append(row, s.numbers.of(term))
		}
		t, met := s.tables[piece.shape]
		if !met {
			t = &table{with: make([]map[int][][]int, len(row))}
			s.tables[piece.shape] = t
		}
		t.rows = append(t.rows, row)
		if piece.shape.bothWays() {
			t.rows = append(t.rows, exchanged(row))
		}
	}
	for _, t := range s.tables {
		t.order()
	}
	return s
}

func (t *table) order() {
	slices.SortFunc(t.rows, slices.Compare)
	t.rows = slices.CompactFunc(t.rows, slices.Equal)
	for k := range t.with {
		t.with[k] = map[int][][]int{}
		for _, row := range t.rows {
			t.with[k][row[k]] = append(t.with[k][row[k]], row)
		}
	}
}

// lacks tells whether a pattern's pieces have a shape, or a constant, that no piece in stock has.
func (s stock) lacks(p pattern) bool {
	for _, shape := range p.shapes {
		if _, there := s.tables[shape]; !there {
			return true
		}
	}
	for _, term := range p.terms {
		if _, there := s.numbers[term]; !there && !term.Var {
			return true
		}
	}
	return false
}

// has tells whether terms can be put in the places of a pattern's variables, so that each of its pieces is in stock.
func (s stock) has(p pattern) bool {
	if s.lacks(p) {
		return false
	}
	look := &search{pattern: p, fit: map[int]int{}, may: make([][]int, len(p.terms)), seen: make([]int, len(s.numbers))}
	var every []int
	for i, shape := range p.shapes {
		look.tables = append(look.tables, s.tables[shape])
		look.rows = append(look.rows, s.tables[shape].rows)
		every = append(every, i)
	}
	for unknown, term := range p.terms {
		if !term.Var {
			look.limit(unknown, []int{s.numbers[term]})
		}
	}
	return look.narrow(every) && look.solve(every)
}
