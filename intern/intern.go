// Package intern is layer 1: see shared/doc/01-intern.md.
package intern

import (
	"iter"
	"slices"
	"strings"

	"inkling/api"
)

// Table: texts and their numbers. A text's number is its place in texts; a nil map marks a table that no call here made.
type Table struct {
	texts   []string
	numbers map[string]int
}

// New: P1.1.
func New() *Table { return withRoom(0) }

// Put: P1.2.
func (t *Table) Put(text string) (int, api.Errno) {
	if !t.made() {
		return 0, api.ErrNil
	}
	if n, ok := t.numbers[text]; ok {
		return n, api.OK
	}
	// A text may be a small piece of a great one, which the table must not keep alive.
	return t.add(strings.Clone(text)), api.OK
}

// PutAll: P1.2.
func (t *Table) PutAll(texts ...string) ([]int, api.Errno) {
	if !t.made() {
		return nil, api.ErrNil
	}
	numbers := make([]int, len(texts))
	for i, text := range texts {
		numbers[i], _ = t.Put(text)
	}
	return numbers, api.OK
}

// Find: P1.3.
func (t *Table) Find(text string) (int, bool) {
	if !t.made() {
		return 0, false
	}
	n, ok := t.numbers[text]
	return n, ok
}

// Text: P1.3.
func (t *Table) Text(n int) (string, bool) {
	if !t.has(n) {
		return "", false
	}
	return t.texts[n], true
}

// Texts: P1.4.
func (t *Table) Texts(numbers ...int) ([]string, api.Errno) {
	if !t.made() {
		return nil, api.ErrNil
	}
	texts := make([]string, len(numbers))
	for i, n := range numbers {
		text, ok := t.Text(n)
		if !ok {
			return nil, api.ErrArg
		}
		texts[i] = text
	}
	return texts, api.OK
}

// Len: P1.3.
func (t *Table) Len() int {
	if !t.made() {
		return 0
	}
	return len(t.texts)
}

// All: P1.5.
func (t *Table) All() iter.Seq2[int, string] {
	return func(yield func(int, string) bool) {
		if !t.made() {
			return
		}
		// Ranging takes the list as it stands now: what the loop puts comes behind its end.
		for n, text := range t.texts {
			if !yield(n, text) {
				return
			}
		}
	}
}

// Ranks: P1.6.
func (t *Table) Ranks() []int {
	if !t.made() {
		return nil
	}
	ranks := make([]int, t.Len())
	for rank, n := range t.Rising() {
		ranks[n] = rank
	}
	return ranks
}

// Rising: P1.6.
func (t *Table) Rising() []int {
	if !t.made() {
		return nil
	}
	numbers := make([]int, 0, t.Len())
	for n := range t.All() {
		numbers = append(numbers, n)
	}
	slices.SortFunc(numbers, func(a, b int) int {
		return strings.Compare(t.texts[a], t.texts[b])
	})
	return numbers
}

// Compare: P1.7.
func (t *Table) Compare(a, b int) (int, api.Errno) {
	if !t.made() {
		return 0, api.ErrNil
	}
	if !t.has(a) || !t.has(b) {
		return 0, api.ErrArg
	}
	return strings.Compare(t.texts[a], t.texts[b]), api.OK
}

// Copy: P1.8.
func (t *Table) Copy() *Table {
	if !t.made() {
		return nil
	}
	c := withRoom(t.Len())
	for _, text := range t.All() {
		c.add(text)
	}
	return c
}

func withRoom(texts int) *Table {
	return &Table{texts: make([]string, 0, texts), numbers: make(map[string]int, texts)}
}

func (t *Table) made() bool { return t != nil && t.numbers != nil }

func (t *Table) has(n int) bool { return 0 <= n && n < t.Len() }

// add takes a text that is not there yet.
func (t *Table) add(text string) int {
	n := len(t.texts)
	t.texts = append(t.texts, text)
	t.numbers[text] = n
	return n
}
