package facts

import (
	"regexp"
	"slices"
	"sort"
	"strings"

	"inkling/api"
)

// What stands here goes by the document's words alone, and asks nothing of the program.

// The forms are of texts whose bytes are runes of their own (byRunes). A piece stands for one byte; a backslash at a beginning's end begins one.
var (
	fieldForm     = regexp.MustCompile(`^([^\t\n\\]|\\[tn\\])*$`)
	beginningForm = regexp.MustCompile(`^([^\t\n\\]|\\[tn\\])*\\?$`)
)

// byRunes makes each byte a rune, so that a form goes by bytes.
func byRunes(text string) string {
	runes := make([]rune, len(text))
	for i := range len(text) {
		runes[i] = rune(text[i])
	}
	return string(runes)
}

func plainEscape(constant string) string {
	field := strings.ReplaceAll(constant, "\\", "\\\\")
	field = strings.ReplaceAll(field, "\t", "\\t")
	return strings.ReplaceAll(field, "\n", "\\n")
}

// plainUnescape puts a byte in the place of each pair, from the beginning on.
func plainUnescape(field string) string {
	return strings.NewReplacer("\\\\", "\\", "\\t", "\t", "\\n", "\n").Replace(field)
}

// plainPieces is of beginnings alone: a pair is one, and so is every other byte.
func plainPieces(text string) int { return len(plainUnescape(text)) }

func plainIsField(text string) bool {
	return fieldForm.MatchString(byRunes(text)) && plainPieces(text) <= 1024
}

// plainBegins tells whether some text behind it makes it a field.
func plainBegins(text string) bool {
	return beginningForm.MatchString(byRunes(text)) && plainPieces(text) <= 1024
}

// plainWrongInField is the first place with which no field goes on; behind the last byte, if only that is wrong that it ends; -1, if it is a field.
func plainWrongInField(text string) int {
	// What a beginning begins with is a beginning too, so that halving finds the first that is none.
	first := sort.Search(len(text), func(i int) bool { return !plainBegins(text[:i+1]) })
	if first == len(text) && plainIsField(text) {
		return -1
	}
	return first
}

// plainWrong is the place of the first byte 10 in a line, or of what is wrong, whichever is first; -1 of a written line.
func plainWrong(line string) int {
	begin := 0
	for _, field := range strings.Split(line, "\t") {
		if at := plainWrongInField(field); at >= 0 {
			return begin + at
		}
		begin += len(field) + 1
	}
	return -1
}

type plainLine struct {
	at   int
	line string
}

func plainLines(text string) []plainLine {
	var lines []plainLine
	begin := 0
	for i := range len(text) {
		if text[i] == 10 {
			lines = append(lines, plainLine{begin, text[begin:i]})
			begin = i + 1
		}
	}
	if begin < len(text) {
		lines = append(lines, plainLine{begin, text[begin:]})
	}
	return lines
}

func plainScan(text string) int {
	for _, x := range plainLines(text) {
		if at := plainWrong(x.line); at >= 0 {
			return x.at + at
		}
	}
	return -1
}

func plainFields(line string, arity int) int {
	if arity == 0 && line == "" {
		return 0
	}
	return len(strings.Split(line, "\t"))
}

func plainRead(text string, arity int) ([][]string, int, api.Errno) {
	if arity < 0 || arity > 16 {
		return nil, -1, api.ErrArg
	}
	if at := plainScan(text); at >= 0 {
		return nil, at, api.ErrSyntax
	}
	var tuples [][]string
	for _, x := range plainLines(text) {
		if plainFields(x.line, arity) != arity {
			return nil, x.at, api.ErrArity
		}
		var tuple []string
		for _, field := range strings.Split(x.line, "\t")[:arity] {
			tuple = append(tuple, plainUnescape(field))
		}
		tuples = append(tuples, tuple)
	}
	return tuples, -1, api.OK
}

// plainRefusal is the error of Write and Relation.
func plainRefusal(tuples [][]string, arity int) api.Errno {
	if arity < 0 || arity > 16 {
		return api.ErrArg
	}
	e := api.OK
	for _, tuple := range tuples {
		if len(tuple) != arity {
			return api.ErrArg
		}
		for _, constant := range tuple {
			if len(constant) > 1024 {
				e = api.ErrLong
			}
		}
	}
	return e
}

func plainOfLine(tuple []string) string {
	var fields []string
	for _, constant := range tuple {
		fields = append(fields, plainEscape(constant))
	}
	return strings.Join(fields, "\t")
}

func plainWrite(tuples [][]string) string {
	text := ""
	for _, tuple := range tuples {
		text += plainOfLine(tuple) + "\n"
	}
	return text
}

// plainLess is of two tuples of one length.
func plainLess(a, b []string) bool {
	for i := range a {
		if a[i] != b[i] {
			return a[i] < b[i]
		}
	}
	return false
}

// plainRising puts one tuple after the other in its place.
func plainRising(tuples [][]string) [][]string {
	var rising [][]string
	for _, tuple := range tuples {
		place := 0
		for place < len(rising) && plainLess(rising[place], tuple) {
			place++
		}
		if place == len(rising) || !slices.Equal(rising[place], tuple) {
			rising = slices.Insert(rising, place, tuple)
		}
	}
	return rising
}
