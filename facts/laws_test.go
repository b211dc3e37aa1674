package facts

import (
	"fmt"
	"slices"
	"strings"
	"testing"

	"inkling/api"
)

func times(count int, text string) string { return strings.Repeat(text, count) }

// list is of tuples; a tuple is told by its constants with blanks between them, no constant by -.
func list(tuples ...string) [][]string {
	var l [][]string
	for _, x := range tuples {
		tuple := strings.Fields(x)
		for i := range tuple {
			tuple[i] = strings.ReplaceAll(tuple[i], "-", "")
		}
		l = append(l, tuple)
	}
	return l
}

func sameTuples(a, b [][]string) bool { return slices.EqualFunc(a, b, slices.Equal[[]string]) }

// short tells as much of a text as a message needs.
func short(text string) string {
	if len(text) > 60 {
		return text[:25] + " .. " + text[len(text)-25:]
	}
	return text
}

// say tells as much of a tuple, or of tuples, as a message needs.
func say[T string | []string](tuples []T) string { return short(fmt.Sprintf("%q", tuples)) }

func wantEscape(t testing.TB, constant, field string) {
	t.Helper()
	if got, e := Escape(constant); got != field || e != api.OK {
		t.Errorf("Escape(%q) is %q, %v; want %q", short(constant), short(got), e, short(field))
	}
	wantUnescape(t, field, constant)
	wantSplit(t, field, constant)
}

func wantNoConstant(t testing.TB, text string) {
	t.Helper()
	if got, e := Escape(text); got != "" || e != api.ErrLong {
		t.Errorf("Escape(%q) is %q, %v; want ErrLong", short(text), short(got), e)
	}
	for _, tuple := range [][]string{{text}, {text, "a"}, {"a", text}, {"", text, "b"}} {
		wantLineError(t, tuple, api.ErrLong)
	}
}

func wantUnescape(t testing.TB, field, constant string) {
	t.Helper()
	if got, at, e := Unescape(field); got != constant || at != -1 || e != api.OK {
		t.Errorf("Unescape(%q) is %q, %d, %v; want %q", short(field), short(got), at, e, short(constant))
	}
}

func wantNoField(t testing.TB, text string, place int) {
	t.Helper()
	if got, at, e := Unescape(text); got != "" || at != place || e != api.ErrSyntax {
		t.Errorf("Unescape(%q) is %q, %d, %v; want %d, ErrSyntax", short(text), short(got), at, e, place)
	}
}

// wantLine is about a line as Line makes it, as Split takes it, and as it stands in files.
func wantLine(t testing.TB, line string, tuple ...string) {
	t.Helper()
	if got, e := Line(tuple...); got != line || e != api.OK {
		t.Errorf("Line(%s) is %q, %v; want %q", say(tuple), short(got), e, short(line))
	}
	wantWrite(t, [][]string{tuple, tuple}, len(tuple), line+"\n"+line+"\n")
	if len(tuple) > 0 {
		wantSplit(t, line, tuple...)
	}
}

// wantLineError is about a tuple that Line refuses, and so do those that take tuples of its length.
func wantLineError(t testing.TB, tuple []string, wanted api.Errno) {
	t.Helper()
	if got, e := Line(tuple...); got != "" || e != wanted {
		t.Errorf("Line of %d is %q, %v; want %v", len(tuple), short(got), e, wanted)
	}
	wantRefused(t, [][]string{tuple}, len(tuple), wanted)
}

func wantSplit(t testing.TB, line string, constants ...string) {
	t.Helper()
	if got, at, e := Split(line); !slices.Equal(got, constants) || at != -1 || e != api.OK {
		t.Errorf("Split(%q) is %s, %d, %v; want %s", short(line), say(got), at, e, say(constants))
	}
	wantScan(t, line, -1)
	wantScan(t, "\n"+line+"\n\n", -1)
}

// wantNoLine is about what Split takes for no line.
func wantNoLine(t testing.TB, line string, place int) {
	t.Helper()
	if got, at, e := Split(line); got != nil || at != place || e != api.ErrSyntax {
		t.Errorf("Split(%q) is %s, %d, %v; want %d, ErrSyntax", short(line), say(got), at, e, place)
	}
}

// wantWrong is about a line without a byte 10, alone and among others: it is wrong in all arities.
func wantWrong(t testing.TB, line string, place int) {
	t.Helper()
	wantNoLine(t, line, place)
	for _, ahead := range []string{"", "\n", "a\n", "a\tb\n\n", "\\\\\n\\n\n"} {
		for _, behind := range []string{"", "\n", "\n\n", "\na", "\n\\q\n", "\n\\"} {
			wantScan(t, ahead+line+behind, len(ahead)+place)
		}
	}
}

// wantScan holds Scan, and Read in all arities where there is something wrong, against a place.
func wantScan(t testing.TB, text string, place int) {
	t.Helper()
	wanted := api.ErrSyntax
	if place < 0 {
		wanted = api.OK
	}
	if at, e := Scan(text); at != place || e != wanted {
		t.Errorf("Scan(%q) is %d, %v; want %d, %v", short(text), at, e, place, wanted)
	}
	for arity := -1; wanted != api.OK && arity <= api.MaxArity+1; arity++ {
		if arity < 0 || arity > api.MaxArity {
			wantReadError(t, text, arity, -1, api.ErrArg)
		} else {
			wantReadError(t, text, arity, place, api.ErrSyntax)
		}
	}
}

func wantRead(t testing.TB, text string, arity int, tuples [][]string) {
	t.Helper()
	got, at, e := Read(text, arity)
	if !sameTuples(got, tuples) || at != -1 || e != api.OK {
		t.Errorf("Read(%q, %d) is %s, %d, %v; want %s", short(text), arity, say(got), at, e, say(tuples))
	}
}

func wantReadError(t testing.TB, text string, arity, place int, wanted api.Errno) {
	t.Helper()
	if got, at, e := Read(text, arity); got != nil || at != place || e != wanted {
		t.Errorf("Read(%q, %d) is %s, %d, %v; want %d, %v", short(text), arity, say(got), at, e, place, wanted)
	}
}

func wantWrite(t testing.TB, tuples [][]string, arity int, text string) {
	t.Helper()
	if got, e := Write(tuples, arity); got != text || e != api.OK {
		t.Errorf("Write of %d tuples, %d is %q, %v; want %q", len(tuples), arity, short(got), e, short(text))
	}
	wantRead(t, text, arity, tuples)
}

func wantRelation(t testing.TB, pred string, arity int, tuples, rising [][]string) {
	t.Helper()
	got, e := Relation(pred, arity, tuples)
	if got.Pred != pred || got.Arity != arity || !sameTuples(got.Tuples, rising) || e != api.OK {
		t.Errorf("Relation(%q, %d, %s) is %q, %d, %s, %v; want %s", short(pred), arity, say(tuples), short(got.Pred), got.Arity, say(got.Tuples), e, say(rising))
	}
}

// wantRefused: Write and Relation answer the error, and nothing beside it.
func wantRefused(t testing.TB, tuples [][]string, arity int, wanted api.Errno) {
	t.Helper()
	if got, e := Write(tuples, arity); got != "" || e != wanted {
		t.Errorf("Write of %d tuples, %d is %q, %v; want %v", len(tuples), arity, short(got), e, wanted)
	}
	if got, e := Relation("p", arity, tuples); got.Pred != "" || got.Arity != 0 || got.Tuples != nil || e != wanted {
		t.Errorf("Relation of %d tuples, %d is %q, %d, %s, %v; want %v", len(tuples), arity, got.Pred, got.Arity, say(got.Tuples), e, wanted)
	}
}

// wantLawsOfText holds all that takes a text against the document's words, and against what follows from them.
func wantLawsOfText(t testing.TB, text string) {
	t.Helper()
	if at := plainWrongInField(text); at >= 0 {
		wantNoField(t, text, at)
	} else {
		wantEscape(t, plainUnescape(text), text)
	}
	if at := plainWrong(text); at >= 0 {
		wantNoLine(t, text, at)
	} else {
		tuple := strings.Split(text, "\t")
		for i, field := range tuple {
			tuple[i] = plainUnescape(field)
		}
		wantSplit(t, text, tuple...)
	}
	wantScan(t, text, plainScan(text))
	for arity := -1; arity <= 4; arity++ {
		wantLawsOfRead(t, text, arity)
	}
}

func wantLawsOfRead(t testing.TB, text string, arity int) {
	t.Helper()
	tuples, place, e := plainRead(text, arity)
	if e != api.OK {
		wantReadError(t, text, arity, place, e)
		return
	}
	wantRead(t, text, arity, tuples)
	whole := text
	if text != "" && !strings.HasSuffix(text, "\n") {
		whole += "\n"
	}
	wantWrite(t, tuples, arity, whole)
}

// wantLawsOfTuples holds all that takes tuples against the document's words, and against what follows from them.
func wantLawsOfTuples(t testing.TB, tuples [][]string, arity int) {
	t.Helper()
	if e := plainRefusal(tuples, arity); e != api.OK {
		wantRefused(t, tuples, arity, e)
		return
	}
	wantWrite(t, tuples, arity, plainWrite(tuples))
	wantRelation(t, "p", arity, tuples, plainRising(tuples))
	for _, tuple := range tuples {
		wantLine(t, plainOfLine(tuple), tuple...)
		wantLength(t, tuple)
		for _, constant := range tuple {
			wantEscape(t, constant, plainEscape(constant))
		}
	}
}

// wantLength: P10.7's number of bytes of a line.
func wantLength(t testing.TB, tuple []string) {
	t.Helper()
	wanted := max(len(tuple)-1, 0)
	for _, constant := range tuple {
		wanted += len(constant)
		for _, special := range []string{"\t", "\n", "\\"} {
			wanted += strings.Count(constant, special)
		}
	}
	if line, _ := Line(tuple...); len(line) != wanted {
		t.Errorf("Line(%s) has %d bytes; want %d", say(tuple), len(line), wanted)
	}
}
