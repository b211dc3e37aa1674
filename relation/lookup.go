package relation

import (
	"slices"

	"inkling/api"
	"inkling/index"
	"inkling/tuple"
)

// row is a row of columns: which of them are in it.
type row [api.MaxArity]bool

// rowOf is false of columns that are no row of a relation of that arity.
func rowOf(columns []int, arity int) (row, bool) {
	var asked row
	last := -1
	for _, column := range columns {
		if column <= last || column >= arity {
			return row{}, false
		}
		asked[column] = true
		last = column
	}
	return asked, true
}

func wholeRow(arity int) row {
	var whole row
	for column := range arity {
		whole[column] = true
	}
	return whole
}

func (r row) columns() api.Columns {
	var list []int
	for column, in := range r {
		if in {
			list = append(list, column)
		}
	}
	columns, _ := tuple.Of(list...)
	return columns
}

// lookup finds places by the values of some columns. Most keys of many relations have one tuple, which should cost no list: a key's value in the table is its one place, or, below 0, which of the lists has its places (-1 the first one).
type lookup struct {
	columns api.Columns
	table   *index.Table[[]int, int]
	lists   [][]int
}

func newLookup(columns row) *lookup {
	table, _ := index.New[[]int, int](tuple.Hash[int], tuple.Equal[int])
	return &lookup{columns: columns.columns(), table: table}
}

// join takes the tuple up, whose place is above all that are there; so the lists rise.
func (x *lookup) join(t []int, place int) {
	key, _ := tuple.Cut(t, x.columns)
	value, there := x.table.Get(key)
	switch {
	case !there:
		x.table.Put(key, place)
	case value < 0:
		x.lists[-1-value] = append(x.lists[-1-value], place)
	default:
		x.lists = append(x.lists, []int{value, place})
		x.table.Put(key, -len(x.lists))
	}
}

// places are those of the tuples that have the key, rising; nobody may write to them.
func (x *lookup) places(key []int) []int {
	value, there := x.table.Get(key)
	switch {
	case !there:
		return nil
	case value < 0:
		return x.lists[-1-value]
	}
	return []int{value}
}

// within are the places of a stretch alone.
func (x *lookup) within(key []int, from, to int) []int {
	places := x.places(key)
	first, _ := slices.BinarySearch(places, from)
	end, _ := slices.BinarySearch(places, to)
	return places[first:max(first, end)]
}

// only is the place of the tuple that has the key, of a row of all columns: there no key has two, so none has a list.
func (x *lookup) only(key []int) (int, bool) { return x.table.Get(key) }

// keys is how many unlike ones there are.
func (x *lookup) keys() int { return x.table.Len() }

// copied goes on apart. What stands in a list never turns, so both may read it; what comes must not go into the room behind it, which is the other one's.
func (x *lookup) copied() *lookup {
	c := &lookup{columns: x.columns, table: x.table.Clone(), lists: slices.Clone(x.lists)}
	for i, places := range c.lists {
		c.lists[i] = slices.Clip(places)
	}
	return c
}
