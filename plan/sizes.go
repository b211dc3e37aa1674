package plan

import (
	"math"
	"slices"

	"inkling/api"
)

// cell is a text in a column.
type cell struct {
	column int
	text   string
}

// distinct counts the unlike texts of each column that the first tuple has. The others may be longer or shorter, so they are gone through once, not once a column.
func distinct(tuples [][]string) []int {
	if len(tuples) == 0 {
		return nil
	}
	counts := make([]int, len(tuples[0]))
	met := map[cell]struct{}{}
	for _, tuple := range tuples {
		for column, text := range tuple[:min(len(tuple), len(counts))] {
			here := cell{column, text}
			if _, before := met[here]; !before {
				met[here] = struct{}{}
				counts[column]++
			}
		}
	}
	return counts
}

// usable tells whether all numbers of the sizes, also of those that no literal asks for, are counts.
func usable(sizes []api.Size) bool {
	for _, size := range sizes {
		if !isCount(size.Rows) || slices.ContainsFunc(size.Distinct, isNoCount) {
			return false
		}
	}
	return true
}

func isCount(number int) bool { return 0 <= number && number <= math.MaxInt32 }

func isNoCount(number int) bool { return !isCount(number) }
