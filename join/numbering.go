package join

import "inkling/intern"

// numbering gives constants their numbers. A number says nothing without the numbering that gave it, so stores, what walks see of them, values and rules all embed theirs. Each store has one of its own, so that what is done to a copy touches nothing else.
type numbering struct{ table *intern.Table }

func newNumbering() numbering { return numbering{intern.New()} }

func (n numbering) copy() numbering { return numbering{n.table.Copy()} }

// find are the numbers of constants, if all have one.
func (n numbering) find(texts []string) ([]int, bool) {
	numbers := make([]int, len(texts))
	for i, text := range texts {
		number, ok := n.table.Find(text)
		if !ok {
			return nil, false
		}
		numbers[i] = number
	}
	return numbers, true
}

// texts are the constants of numbers that were given here.
func (n numbering) texts(numbers []int) []string {
	texts, _ := n.table.Texts(numbers...)
	return texts
}

// value is a constant, by its number.
type value struct {
	numbering
	number int
}

func (v value) text() string {
	text, _ := v.table.Text(v.number)
	return text
}

// in is the constant's number in a numbering, if it has one there. Most values are looked for where they came from, and cost no search then.
func (v value) in(n numbering) (int, bool) {
	if v.numbering == n {
		return v.number, true
	}
	return n.table.Find(v.text())
}

func (v value) same(other value) bool {
	number, ok := v.in(other.numbering)
	return ok && number == other.number
}
