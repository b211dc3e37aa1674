package files

import (
	"errors"
	"fmt"
	"math"
	"strings"
	"testing"

	"inkling/api"
)

// P6.6

// plainLine goes by the chapter's words, byte by byte.
func plainLine(text string, offset int) (int, int) {
	if offset < 0 || offset > len(text) {
		return 0, 0
	}
	line, column := 1, 1
	for i := range offset {
		if text[i] == 10 {
			line++
			column = 1
		} else {
			column++
		}
	}
	return line, column
}

func agreesOnLine(t testing.TB, text string, offset int) {
	t.Helper()
	line, column := plainLine(text, offset)
	wantLine(t, text, offset, line, column)
}

func wantLine(t testing.TB, text string, offset, line, column int) {
	t.Helper()
	if a, b := Line(text, offset); a != line || b != column {
		t.Errorf("Line(%q, %d) is %d, %d; want %d, %d", text, offset, a, b, line, column)
	}
}

func TestLineOfTheExamples(t *testing.T) {
	for offset, place := range map[int][2]int{0: {1, 1}, 1: {1, 2}, 2: {1, 3}, 3: {2, 1}, 4: {2, 2}, 5: {0, 0}, -1: {0, 0}} {
		wantLine(t, "ab\nc", offset, place[0], place[1])
	}
}

func TestLineAtTheEdges(t *testing.T) {
	wantLine(t, "", 0, 1, 1)
	wantLine(t, "", 1, 0, 0)
	wantLine(t, "", -1, 0, 0)
	wantLine(t, "\n", 0, 1, 1)
	wantLine(t, "\n", 1, 2, 1)
	wantLine(t, "\n", 2, 0, 0)
	wantLine(t, "a\n", 1, 1, 2)
	wantLine(t, "a\n", 2, 2, 1)
	wantLine(t, "a\n\nb", 2, 2, 1)
	wantLine(t, "a\n\nb", 3, 3, 1)
	wantLine(t, "a\r\nb", 2, 1, 3)
	wantLine(t, "é\nb", 2, 1, 3)
	wantLine(t, "\xff\n\x80", 3, 2, 2)
	for _, offset := range []int{math.MinInt, math.MinInt32, -2, 3, 4, math.MaxInt32, math.MaxInt} {
		wantLine(t, "ab", offset, 0, 0)
	}
	long := strings.Repeat("0123456789\n", 100000)
	wantLine(t, long, len(long), 100001, 1)
	wantLine(t, long, len(long)-1, 100000, 11)
	wantLine(t, long, len(long)+1, 0, 0)
}

func TestLineOfAllSmallTexts(t *testing.T) {
	for _, text := range textsOf(6) {
		for offset := -2; offset <= len(text)+2; offset++ {
			agreesOnLine(t, text, offset)
		}
	}
}

// P6.7

// own is an error of the tests' own that wraps another one.
type own struct{ in error }

func (o own) Error() string { return "own" }

func (o own) Unwrap() error { return o.in }

// shows is an error that errors.As is handed a Fault or a number by, though it wraps nothing.
type shows struct {
	fault *api.Fault
	errno api.Errno
}

func (s shows) Error() string { return "shows" }

func (s shows) As(target any) bool {
	switch at := target.(type) {
	case **api.Fault:
		*at = s.fault
		return s.fault != nil
	case *api.Errno:
		*at = s.errno
		return true
	}
	return false
}

var noFault *api.Fault

// fault wraps what is handed in.
func fault(class api.Errno, in error) *api.Fault {
	return &api.Fault{Class: class, File: "g", Offset: 7, Name: "q", Err: in}
}

type classed struct {
	what  string
	e     error
	class api.Errno
}

// classes are errors of all sorts, but nil.
func classes() []classed {
	plain := errors.New("plain")
	return []classed{
		{"an Errno", api.ErrCycle, api.ErrCycle},
		{"OK", api.OK, api.OK},
		{"an Errno that no chapter names", api.Errno(-77), api.Errno(-77)},
		{"a plain error", plain, api.ErrArg},
		{"a wrapped plain error", own{plain}, api.ErrArg},
		{"an error that wraps nil", own{nil}, api.ErrArg},
		{"a wrapped Errno", own{api.ErrLong}, api.ErrLong},
		{"an Errno that is wrapped twice", own{fmt.Errorf("more: %w", api.ErrLong)}, api.ErrLong},
		{"a Fault that wraps nothing", fault(api.ErrArity, nil), api.ErrArity},
		{"a Fault that wraps an Errno", fault(api.ErrArity, api.ErrLong), api.ErrArity},
		{"a Fault that wraps a plain error", fault(api.ErrArity, plain), api.ErrArity},
		{"a Fault that wraps a Fault", fault(api.ErrArity, fault(api.ErrLong, nil)), api.ErrArity},
		{"a zero Fault", &api.Fault{}, api.OK},
		{"a Fault of the class OK that wraps an Errno", fault(api.OK, api.ErrLong), api.OK},
		{"a wrapped Fault", own{fault(api.ErrUnsafe, api.ErrLong)}, api.ErrUnsafe},
		{"a Fault that is wrapped twice", fmt.Errorf("more: %w", own{fault(api.ErrUnsafe, nil)}), api.ErrUnsafe},
		{"a nil Fault", noFault, api.ErrArg},
		{"a wrapped nil Fault", own{noFault}, api.ErrArg},
		{"a Fault that wraps a nil one", fault(api.ErrMixed, noFault), api.ErrMixed},
		{"joined Errnos", errors.Join(api.ErrMixed, api.ErrCycle), api.ErrMixed},
		{"a plain error and an Errno", errors.Join(plain, api.ErrMixed), api.ErrMixed},
		{"an Errno and a Fault", errors.Join(api.ErrMixed, fault(api.ErrArity, nil)), api.ErrArity},
		{"joined Faults", errors.Join(plain, fault(api.ErrSyntax, nil), fault(api.ErrArity, nil)), api.ErrSyntax},
		{"a nil Fault and an Errno", errors.Join(noFault, api.ErrMixed), api.ErrMixed},
		{"an Errno and a nil Fault", errors.Join(api.ErrMixed, noFault), api.ErrMixed},
		{"a nil Fault and a Fault", errors.Join(noFault, fault(api.ErrArity, api.ErrLong)), api.ErrLong},
		{"joined errors within joined ones", errors.Join(errors.Join(plain, own{plain}), errors.Join(own{api.ErrLong})), api.ErrLong},
		{"joined plain errors", errors.Join(plain, plain), api.ErrArg},
		{"an error that shows a Fault", shows{fault: fault(api.ErrMissing, nil), errno: api.ErrLong}, api.ErrMissing},
		{"an error that shows an Errno", own{shows{errno: api.ErrLong}}, api.ErrLong},
		{"an error of Errnos in an error of one's own", fmt.Errorf("%w and %w", api.ErrNil, api.ErrLong), api.ErrNil},
	}
}

func TestClass(t *testing.T) {
	want(t, "Class(nil)", Class(nil), api.OK)
	for _, c := range classes() {
		want(t, "Class of "+c.what, Class(c.e), c.class)
		want(t, "Class of "+c.what+", asked again", Class(c.e), c.class)
	}
}

func TestClassOfEveryErrno(t *testing.T) {
	for errno := api.Errno(-1); errno < 500; errno++ {
		want(t, "Class of an Errno", Class(errno), errno)
		want(t, "Class of a wrapped Errno", Class(own{errno}), errno)
		want(t, "Class of a Fault", Class(fault(errno, api.ErrNil)), errno)
	}
}

func TestClassOfDeepErrors(t *testing.T) {
	number, inner, joined := error(api.ErrLong), error(fault(api.ErrCycle, nil)), error(api.ErrMixed)
	for range 1 << 16 {
		number, inner, joined = own{number}, own{inner}, errors.Join(joined)
	}
	want(t, "Class of an Errno far inside", Class(number), api.ErrLong)
	want(t, "Class of a Fault far inside", Class(inner), api.ErrCycle)
	want(t, "Class of an Errno that is joined often", Class(joined), api.ErrMixed)
}

// P6.8

func TestAtOfNil(t *testing.T) {
	for _, e := range []error{At(nil, "", 0, ""), At(nil, "f", 3, "p"), At(nil, "f", -1, "p")} {
		if e != nil {
			t.Errorf("At(nil) is %T %v; want nil", e, e)
		}
	}
}

func TestAtOfTheExample(t *testing.T) {
	e := At(api.ErrLong, "f", 3, "p")
	wantFault(t, e, api.ErrLong, "f", 3, "p", api.ErrLong)
	want(t, "errors.Is", errors.Is(e, api.ErrLong), true)
	want(t, "errors.Is of another one", errors.Is(e, api.ErrArity), false)
}

func TestAt(t *testing.T) {
	for _, c := range classes() {
		for _, offset := range []int{0, 3, -1, math.MinInt, math.MaxInt} {
			e := At(c.e, "f", offset, "p")
			wantFault(t, e, c.class, "f", offset, "p", c.e)
			want(t, "errors.Is of "+c.what, errors.Is(e, c.e), true)
			want(t, "errors.Is of the class of "+c.what, errors.Is(e, c.class), true)
		}
		wantFault(t, At(c.e, "", 0, ""), c.class, "", 0, "", c.e)
		wantFault(t, At(c.e, "\xff\n", 0, "\x00"), c.class, "\xff\n", 0, "\x00", c.e)
	}
}

// All that errors.Is and errors.As find in an error they find in what At makes of it.
func TestAtHidesNothing(t *testing.T) {
	for _, c := range classes() {
		e := own{At(c.e, "f", 3, "p")}
		for errno := api.Errno(-80); errno < 500; errno++ {
			if errors.Is(c.e, errno) && !errors.Is(e, errno) {
				t.Errorf("errors.Is finds %v in %s, but not behind At", errno, c.what)
			}
		}
		var before, behind own
		if errors.As(c.e, &before) && (!errors.As(e.in, &behind) || before != behind) {
			t.Errorf("errors.As finds %v in %s, but %v behind At", before, c.what, behind)
		}
		var number, same api.Errno
		if errors.As(c.e, &number) && (!errors.As(e, &same) || number != same) {
			t.Errorf("errors.As finds %v in %s, but %v behind At", number, c.what, same)
		}
	}
}

// What At makes of a Fault says where it is anew, and leaves the Fault as it is.
func TestAtOfAFault(t *testing.T) {
	inner := fault(api.ErrArity, api.ErrLong)
	e := At(inner, "f", 3, "p")
	wantFault(t, e, api.ErrArity, "f", 3, "p", inner)
	wantFault(t, inner, api.ErrArity, "g", 7, "q", api.ErrLong)
	for _, errno := range []api.Errno{api.ErrArity, api.ErrLong} {
		want(t, "errors.Is", errors.Is(e, errno), true)
	}
	again := At(e, "h", 0, "")
	wantFault(t, again, api.ErrArity, "h", 0, "", e)
	e.(*api.Fault).File = "changed"
	other := At(inner, "f", 3, "p")
	wantFault(t, other, api.ErrArity, "f", 3, "p", inner)
}

func TestAtOfAnAbsentFile(t *testing.T) {
	_, missing := New().Text("c")
	e := At(missing, "f", 3, "p")
	wantFault(t, e, api.ErrMissing, "f", 3, "p", missing)
	want(t, "errors.Is of ErrAbsent", errors.Is(e, api.ErrAbsent), true)
	want(t, "errors.Is of ErrMissing", errors.Is(e, api.ErrMissing), true)
}

// P6.10

func TestClassOfAt(t *testing.T) {
	for _, c := range classes() {
		at := At(c.e, "f", 3, "p")
		for _, e := range []error{at, own{at}, fmt.Errorf("more: %w", at), errors.Join(errors.New("plain"), at), errors.Join(api.ErrNil, at), At(at, "g", 1, ""), At(own{at}, "g", 1, "")} {
			want(t, "Class behind At of "+c.what, Class(e), Class(c.e))
		}
	}
	want(t, "Class behind At of nil", Class(At(nil, "f", 3, "p")), api.OK)
}

func TestLineNeverGoesBack(t *testing.T) {
	for _, text := range append(textsOf(6), strings.Repeat("a\n\nbc", 300)) {
		line, column := Line(text, 0)
		for offset := 1; offset <= len(text); offset++ {
			l, c := Line(text, offset)
			if l < line || l == line && c <= column {
				t.Errorf("Line(%q, %d) is %d, %d behind %d, %d", text, offset, l, c, line, column)
			}
			line, column = l, c
		}
	}
}

// A line that Lines tells begins at the first byte of the line that Line tells of its offset.
func TestLineAgreesWithLines(t *testing.T) {
	for _, text := range textsOf(6) {
		number := 0
		for at := range of("f", text).Lines("f") {
			number++
			wantLine(t, text, at, number, 1)
		}
	}
}
