package files

import (
	"bytes"
	"errors"
	"fmt"
	"iter"
	"math"
	"math/rand"
	"runtime"
	"slices"
	"strings"
	"sync"
	"testing"
	"unsafe"
	"weak"

	"inkling/api"
)

// pairs are names, each with its data behind it.
func pairs(texts ...string) []api.File {
	var list []api.File
	for i := 0; i+1 < len(texts); i += 2 {
		list = append(list, api.File{Name: texts[i], Data: []byte(texts[i+1])})
	}
	return list
}

func of(texts ...string) *Files { return New(pairs(texts...)...) }

// tells says what Lines tells, as one line.
func tells(lines iter.Seq2[int, string]) string {
	var l []string
	for at, line := range lines {
		l = append(l, fmt.Sprintf("%d %q", at, line))
	}
	return strings.Join(l, ", ")
}

func want[T comparable](t testing.TB, call string, got, wanted T) {
	t.Helper()
	if got != wanted {
		t.Errorf("%s is %#v; want %#v", call, got, wanted)
	}
}

func wantNames(t testing.TB, f *Files, names ...string) {
	t.Helper()
	if got := f.Names(); !slices.Equal(got, names) {
		t.Errorf("Names is %q; want %q", got, names)
	}
	want(t, "Len", f.Len(), len(names))
}

// wantFile asks for a file that is there by all calls.
func wantFile(t testing.TB, f *Files, name, data string) {
	t.Helper()
	want(t, fmt.Sprintf("Has(%q)", name), f.Has(name), true)
	if got, e := f.Read(name); string(got) != data || e != nil {
		t.Errorf("Read(%q) is %q, %v; want %q, nil", name, got, e, data)
	}
	if got, e := f.Text(name); got != data || e != nil {
		t.Errorf("Text(%q) is %q, %v; want %q, nil", name, got, e, data)
	}
	want(t, fmt.Sprintf("Lines(%q)", name), tells(f.Lines(name)), plainLines(data))
}

// wantFault is about an error as it stands, not about what it wraps.
func wantFault(t testing.TB, e error, class api.Errno, file string, offset int, name string, wrapped error) {
	t.Helper()
	fault, ok := e.(*api.Fault)
	if !ok || fault == nil {
		t.Errorf("%T %v is no Fault", e, e)
		return
	}
	if *fault != (api.Fault{Class: class, File: file, Offset: offset, Name: name, Err: wrapped}) {
		t.Errorf("the Fault is %+v; want %v, %q, %d, %q, %v", *fault, class, file, offset, name, wrapped)
	}
}

// wantAbsent asks for a file that is not there by all calls.
func wantAbsent(t testing.TB, f *Files, name string) {
	t.Helper()
	want(t, fmt.Sprintf("Has(%q)", name), f.Has(name), false)
	data, e := f.Read(name)
	if data != nil {
		t.Errorf("Read(%q) is %q beside an error; want nil", name, data)
	}
	wantMissing(t, e, name)
	text, e := f.Text(name)
	want(t, fmt.Sprintf("Text(%q)", name), text, "")
	wantMissing(t, e, name)
	lines := f.Lines(name)
	if lines == nil {
		t.Fatalf("Lines(%q) is nil", name)
	}
	want(t, fmt.Sprintf("Lines(%q)", name), tells(lines), "")
}

func wantMissing(t testing.TB, e error, name string) {
	t.Helper()
	var fault *api.Fault
	if !errors.As(e, &fault) {
		t.Errorf("errors.As finds no Fault in %v", e)
		return
	}
	wantFault(t, fault, api.ErrMissing, name, 0, "", api.ErrAbsent)
	for _, errno := range []api.Errno{api.ErrMissing, api.ErrAbsent} {
		want(t, fmt.Sprintf("errors.Is(%v)", errno), errors.Is(e, errno), true)
	}
	for _, errno := range []api.Errno{api.OK, api.ErrNil, api.ErrArg, api.ErrSyntax} {
		want(t, fmt.Sprintf("errors.Is(%v)", errno), errors.Is(e, errno), false)
	}
	want(t, "Class of what Read and Text answer", Class(e), api.ErrMissing)
}

// plainLines goes by the chapter's words, byte by byte: what tells must say of a file.
func plainLines(data string) string {
	var l []string
	start := 0
	for i := range len(data) {
		if data[i] == 10 {
			l = append(l, fmt.Sprintf("%d %q", start, data[start:i]))
			start = i + 1
		}
	}
	if start < len(data) {
		l = append(l, fmt.Sprintf("%d %q", start, data[start:]))
	}
	return strings.Join(l, ", ")
}

// plainFirst is the data of the first file of a name in a list.
func plainFirst(list []api.File, name string) (string, bool) {
	for _, file := range list {
		if file.Name == name {
			return string(file.Data), true
		}
	}
	return "", false
}

func plainNames(list []api.File) []string {
	var names []string
	for _, file := range list {
		if !slices.Contains(names, file.Name) {
			names = append(names, file.Name)
		}
	}
	slices.Sort(names)
	return names
}

// agrees holds a Files against a list that is looked through; strange are names that the list may not have.
func agrees(t testing.TB, f *Files, list []api.File, strange ...string) {
	t.Helper()
	names := plainNames(list)
	wantNames(t, f, names...)
	for _, name := range append(names, strange...) {
		if data, there := plainFirst(list, name); there {
			wantFile(t, f, name, data)
		} else {
			wantAbsent(t, f, name)
		}
	}
}

// draw makes files with so few names that many have the same one.
func draw(r *rand.Rand, count int) []api.File {
	list := make([]api.File, count)
	for i := range list {
		data := make([]byte, r.Intn(12))
		for k := range data {
			data[k] = "\n\nab\x00\r\xff"[r.Intn(7)]
		}
		list[i] = api.File{Name: fmt.Sprint(r.Intn(6)), Data: data}
	}
	return list
}

// every are names of all sorts.
var every = []string{"", "a", "b", "c", "ab", "A", "\n", "\x00", "\xff", "a/b", "0", "5", "6"}

// The chapter's examples.
func TestExamples(t *testing.T) {
	f := of("b", "1\n2", "a", "", "b", "x")
	wantNames(t, f, "a", "b")
	want(t, "Has(c)", f.Has("c"), false)
	if data, e := f.Read("b"); !bytes.Equal(data, []byte{0x31, 0x0A, 0x32}) || e != nil {
		t.Errorf("Read(b) is %v, %v", data, e)
	}
	wantAbsent(t, f, "c")

	f = of("b", "1\n2", "a", "", "d", "\n\nx\n")
	want(t, "Lines(b)", tells(f.Lines("b")), `0 "1", 2 "2"`)
	want(t, "Lines(a)", tells(f.Lines("a")), "")
	want(t, "Lines(d)", tells(f.Lines("d")), `0 "", 1 "", 2 "x"`)
	want(t, "Lines(c)", tells(f.Lines("c")), "")

	f = of("a", "1").Over(of("a", "2", "c", "3"))
	wantFile(t, f, "a", "1")
	wantFile(t, f, "c", "3")

	f = nil
	wantNames(t, f)
	wantAbsent(t, f, "a")
	want(t, "Len of nil over nil", f.Over(nil).Len(), 0)
}

// P6.1

func TestNewOfNoFiles(t *testing.T) {
	for i, f := range []*Files{New(), New(nil...), New([]api.File{}...)} {
		if f == nil {
			t.Fatalf("%d: New is nil", i)
		}
		agrees(t, f, nil, every...)
	}
}

func TestNewTakesTheFirstOfAName(t *testing.T) {
	for _, list := range [][]api.File{
		pairs("a", "1", "a", "2"),
		pairs("a", "", "a", "2"),
		pairs("a", "1", "b", "2", "a", "3", "b", "4", "a", "5"),
		pairs("", "1", "", "2"),
		{{Name: "a"}, {Name: "a", Data: []byte("2")}},
	} {
		agrees(t, New(list...), list, every...)
	}
}

func TestNewTakesNamesOfAllSorts(t *testing.T) {
	var list []api.File
	for _, name := range append(slices.Clone(every), strings.Repeat("n", 2*api.MaxText), "input", "é", "\xc3") {
		list = append(list, api.File{Name: name, Data: []byte("data of " + name)})
	}
	agrees(t, New(list...), list, "e", "é\x00", strings.Repeat("n", 2*api.MaxText-1))
}

func TestNewTakesDataOfAllSorts(t *testing.T) {
	bytesOfAllSorts := make([]byte, 256)
	for i := range bytesOfAllSorts {
		bytesOfAllSorts[i] = byte(i)
	}
	for _, data := range []string{"", "\n", "\n\n", "x", "x\n", "\nx", "\r\n", "\x00", "\xff\xfe\n\x80", "é\n", string(bytesOfAllSorts), strings.Repeat("long\n", 50000)} {
		wantFile(t, of("f", data), "f", data)
	}
}

func TestNewOfManyFiles(t *testing.T) {
	r := rand.New(rand.NewSource(61))
	for count := range 60 {
		list := draw(r, count)
		agrees(t, New(list...), list, every...)
	}
}

// P6.2

func TestNamesRiseByBytes(t *testing.T) {
	f := of("b", "", "é", "", "", "", "ab", "", "a", "", "\xff", "", "B", "", "a", "x", "10", "", "9", "")
	wantNames(t, f, "", "10", "9", "B", "a", "ab", "b", "é", "\xff")
}

func TestHasTellsTheEmptyNameApart(t *testing.T) {
	wantAbsent(t, of("a", ""), "")
	f := of("", "x")
	wantNames(t, f, "")
	wantFile(t, f, "", "x")
	wantAbsent(t, f, "a")
}

// P6.3

func TestReadOfFilesWithoutBytes(t *testing.T) {
	for _, f := range []*Files{of("a", ""), New(api.File{Name: "a"}), New(api.File{Name: "a", Data: make([]byte, 0, 9)})} {
		wantNames(t, f, "a")
		wantFile(t, f, "a", "")
	}
}

func TestReadOfAbsentFiles(t *testing.T) {
	for _, f := range []*Files{New(), of("f", "1"), of("f", "1", "g", "2"), new(Files), nil} {
		for _, name := range every {
			wantAbsent(t, f, name)
		}
	}
}

func TestErrorsAreApart(t *testing.T) {
	f := of("f", "1")
	_, first := f.Read("g")
	first.(*api.Fault).File = "changed"
	_, second := f.Read("g")
	wantMissing(t, second, "g")
	second.(*api.Fault).Class = api.ErrArg
	_, third := f.Text("g")
	wantMissing(t, third, "g")
}

// P6.4

func TestLinesOfSmallFiles(t *testing.T) {
	for data, told := range map[string]string{
		"":           "",
		"\n":         `0 ""`,
		"x":          `0 "x"`,
		"x\n":        `0 "x"`,
		"\nx":        `0 "", 1 "x"`,
		"\n\n":       `0 "", 1 ""`,
		"x\n\n":      `0 "x", 2 ""`,
		"ab\ncd":     `0 "ab", 3 "cd"`,
		"ab\ncd\n":   `0 "ab", 3 "cd"`,
		"ab\r\ncd":   `0 "ab\r", 4 "cd"`,
		"\xff\n\x80": `0 "\xff", 2 "\x80"`,
		"é\né":       `0 "é", 3 "é"`,
		"a\x00b\n":   `0 "a\x00b"`,
	} {
		want(t, fmt.Sprintf("Lines of %q", data), tells(of("f", data).Lines("f")), told)
	}
}

// textsOf are all texts of so few bytes that every way in which lines can lie is among them.
func textsOf(most int) []string {
	all := []string{""}
	for i := 0; len(all[i]) < most; i++ {
		for _, piece := range []string{"\n", "a", "\xff"} {
			all = append(all, all[i]+piece)
		}
	}
	return all
}

func TestLinesOfAllSmallTexts(t *testing.T) {
	for _, data := range textsOf(6) {
		want(t, fmt.Sprintf("Lines of %q", data), tells(of("f", data).Lines("f")), plainLines(data))
	}
}

func TestLinesAreGoneOverAgain(t *testing.T) {
	lines := of("f", "1\n\n3").Lines("f")
	for range 3 {
		want(t, "Lines", tells(lines), `0 "1", 2 "", 3 "3"`)
	}
	told := 0
	for range lines {
		for range lines {
			told++
		}
	}
	want(t, "a loop within a loop", told, 9)
}

func TestLinesAreLeftEarly(t *testing.T) {
	lines := of("f", "1\n2\n3\n").Lines("f")
	for most := 1; most <= 3; most++ {
		calls := 0
		lines(func(int, string) bool {
			calls++
			return calls < most
		})
		want(t, "how often a loop that is left goes round", calls, most)
	}
	for at, line := range lines {
		if at != 0 || line != "1" {
			t.Errorf("the first line behind loops that were left is %d, %q", at, line)
		}
		break
	}
	want(t, "Lines behind loops that were left", tells(lines), `0 "1", 2 "2", 4 "3"`)
}

// What there was at the call is told, whatever becomes of the object.
func TestLinesTellWhatThereWas(t *testing.T) {
	list := pairs("f", "1\n2")
	f := New(list...)
	lines, none := f.Lines("f"), f.Lines("g")
	list[0].Data[0] = 'x'
	list[0].Name = "g"
	*f = *of("f", "3", "g", "4")
	want(t, "Lines behind the call", tells(lines), `0 "1", 2 "2"`)
	want(t, "Lines of no file behind the call", tells(none), "")
	for range lines {
		*f = Files{}
	}
	want(t, "Lines of a Files that is zero now", tells(lines), `0 "1", 2 "2"`)
}

// P6.5

func TestOver(t *testing.T) {
	f, g := of("a", "1", "b", "2"), of("b", "3", "c", "4")
	agrees(t, f.Over(g), pairs("a", "1", "b", "2", "c", "4"), every...)
	agrees(t, g.Over(f), pairs("a", "1", "b", "3", "c", "4"), every...)
	agrees(t, f, pairs("a", "1", "b", "2"), every...)
	agrees(t, g, pairs("b", "3", "c", "4"), every...)
}

// A file without bytes is there, and hides the other one's.
func TestOverOfFilesWithoutBytes(t *testing.T) {
	agrees(t, of("a", "").Over(of("a", "2")), pairs("a", ""), every...)
	agrees(t, New(api.File{Name: "a"}).Over(of("a", "2")), pairs("a", ""), every...)
	agrees(t, of("a", "1").Over(of("", "", "a", "")), pairs("a", "1", "", ""), every...)
}

func TestOverOfNone(t *testing.T) {
	for _, none := range []*Files{nil, new(Files), New()} {
		f := of("a", "1", "b", "2")
		agrees(t, none.Over(f), pairs("a", "1", "b", "2"), every...)
		agrees(t, f.Over(none), pairs("a", "1", "b", "2"), every...)
		for _, other := range []*Files{nil, new(Files), New()} {
			over := none.Over(other)
			if over == nil {
				t.Fatal("Over is nil")
			}
			agrees(t, over, nil, every...)
		}
	}
}

// What Over answers is an object of its own: what becomes of the others does not touch it, nor the other way round.
func TestOverIsApart(t *testing.T) {
	f, g := of("a", "1"), of("c", "3")
	over, same, only := f.Over(g), f.Over(f), f.Over(nil)
	again := over.Over(of("d", "4"))
	*f, *g = *of("a", "x", "e", "y"), Files{}
	agrees(t, over, pairs("a", "1", "c", "3"), every...)
	agrees(t, same, pairs("a", "1"), every...)
	agrees(t, only, pairs("a", "1"), every...)
	agrees(t, again, pairs("a", "1", "c", "3", "d", "4"), every...)
	*over = Files{}
	agrees(t, f, pairs("a", "x", "e", "y"), every...)
	agrees(t, again, pairs("a", "1", "c", "3", "d", "4"), every...)
}

// P6.9

// roomy has spare room behind it, which must stay as it is.
func roomy(text string) []byte { return append([]byte(text), "spare"...)[:len(text)] }

func TestDataIsCopiedIn(t *testing.T) {
	list := []api.File{{Name: "a", Data: roomy("1\n2")}, {Name: "b", Data: roomy("")}, {Name: "a", Data: roomy("3")}}
	spare := append(list, api.File{Name: "c"})
	f := New(list...)
	over := f.Over(New(spare[3:]...))
	for i, file := range list {
		want(t, "the spare room behind what was handed in", string(file.Data[len(file.Data):len(file.Data)+5]), "spare")
		want(t, "a file that was handed in", fmt.Sprintf("%s %s", file.Name, file.Data), []string{"a 1\n2", "b ", "a 3"}[i])
	}
	for i := range list {
		whole := list[i].Data[:cap(list[i].Data)]
		for k := range whole {
			whole[k] = 'x'
		}
		list[i].Name = "x"
	}
	agrees(t, f, pairs("a", "1\n2", "b", ""), every...)
	agrees(t, over, pairs("a", "1\n2", "b", "", "c", ""), every...)
}

func TestAnswersAreCopiedOut(t *testing.T) {
	f := of("a", "1\n2", "b", "")
	over := f.Over(nil)
	for range 2 {
		data, _ := f.Read("a")
		again, _ := f.Read("a")
		names := f.Names()
		for _, list := range [][]byte{data[:cap(data)], append(data, "more"...)} {
			for k := range list {
				list[k] = 'x'
			}
		}
		want(t, "an answer beside one that is changed", string(again), "1\n2")
		_ = append(names, "x")
		names[0], names[1] = "x", "y"
		empty, _ := f.Read("b")
		_ = append(empty, "x"...)
	}
	agrees(t, f, pairs("a", "1\n2", "b", ""), every...)
	agrees(t, over, pairs("a", "1\n2", "b", ""), every...)
}

func TestNothingIsKept(t *testing.T) {
	var gone []weak.Pointer[[64]byte]
	hand := func() []byte {
		data := new([64]byte)
		gone = append(gone, weak.Make(data))
		return data[:]
	}
	great := strings.Repeat("a", 1000)
	text := weak.Make(unsafe.StringData(great))
	f := New(api.File{Name: great[:1], Data: hand()}, api.File{Name: "b", Data: hand()[:0]}, api.File{Name: "a", Data: hand()})
	over := f.Over(New(api.File{Name: "c", Data: hand()}))
	lines := over.Lines("c")
	for range 3 {
		runtime.GC()
	}
	for i, p := range gone {
		if p.Value() != nil {
			t.Errorf("the data of the file %d is kept", i)
		}
	}
	if text.Value() != nil {
		t.Error("the text of which a name is a piece is kept")
	}
	nought := strings.Repeat("\x00", 64)
	agrees(t, f, pairs("a", nought, "b", ""), every...)
	agrees(t, over, pairs("a", nought, "b", "", "c", nought), every...)
	want(t, "Lines", tells(lines), plainLines(nought))
}

// Nothing is written once the files are in, so any number may read them at once (go test -race would tell).
func TestManyReadAtOnce(t *testing.T) {
	f := of("a", "1\n2", "b", "")
	var all sync.WaitGroup
	for range 8 {
		all.Go(func() {
			agrees(t, f, pairs("a", "1\n2", "b", ""), every...)
			agrees(t, f.Over(f), pairs("a", "1\n2", "b", ""), every...)
		})
	}
	all.Wait()
}

// Rules that hold everywhere: a nil object and a zero one

func TestNilAndZero(t *testing.T) {
	var zero Files
	for _, f := range []*Files{nil, &zero, new(Files)} {
		want(t, "Len", f.Len(), 0)
		if names := f.Names(); len(names) != 0 {
			t.Errorf("Names is %q; want none", names)
		}
		agrees(t, f, nil, every...)
		agrees(t, f.Over(of("a", "1")), pairs("a", "1"), every...)
		agrees(t, f, nil, every...)
	}
	if zero.byName != nil {
		t.Error("a call has changed a zero Files")
	}
}

// P6.10

func TestLinesMakeTheFile(t *testing.T) {
	for _, data := range textsOf(6) {
		made, next := "", 0
		for at, line := range of("f", data).Lines("f") {
			if at != next || strings.Contains(line, "\n") || data[at:at+len(line)] != line {
				t.Errorf("a line of %q is %d, %q; the next one begins at %d", data, at, line, next)
			}
			made += line + "\n"
			next = at + len(line) + 1
		}
		if made != data && made != data+"\n" {
			t.Errorf("the lines of %q make %q", data, made)
		}
		if strings.HasSuffix(data, "\n") && made != data {
			t.Errorf("the lines of %q make %q, and no byte 10 is wanting there", data, made)
		}
	}
}

// same tells two Files apart by what they answer.
func same(t testing.TB, what string, f, g *Files) {
	t.Helper()
	say := func(f *Files) string {
		var l []string
		for _, name := range f.Names() {
			text, e := f.Text(name)
			l = append(l, fmt.Sprintf("%q %q %v", name, text, e))
		}
		return strings.Join(l, ", ")
	}
	want(t, what, say(f), say(g))
}

func TestOverGoesInAnyBrackets(t *testing.T) {
	r := rand.New(rand.NewSource(62))
	some := []*Files{nil, new(Files), New(), of("", "x"), of("a", ""), of("a", "1", "b", "2"), of("b", "3", "c", "4"), of("c", "5", "", "6")}
	for range 6 {
		some = append(some, New(draw(r, 4)...))
	}
	for _, f := range some {
		same(t, "f over f", f.Over(f), f)
		for _, g := range some {
			for _, h := range some {
				same(t, "(f over g) over h", f.Over(g).Over(h), f.Over(g.Over(h)))
			}
			same(t, "f over g over f", f.Over(g).Over(f), f.Over(g))
		}
	}
}

func TestOverAgreesWithNew(t *testing.T) {
	r := rand.New(rand.NewSource(63))
	for range 200 {
		a, b := draw(r, r.Intn(6)), draw(r, r.Intn(6))
		agrees(t, New(a...).Over(New(b...)), append(slices.Clone(a), b...), every...)
	}
}

// FuzzFiles cuts data into files by bytes 1 (the next file) and 2 (its data begins), and holds all calls against the list of them.
func FuzzFiles(f *testing.F) {
	f.Add([]byte("b\x021\n2\x01a\x02\x01b\x02x"), 4)
	f.Add([]byte("\x02\n\n\xff\n\x01"), 0)
	f.Add([]byte("f\x02ab\nc"), math.MaxInt)
	f.Fuzz(func(t *testing.T, data []byte, offset int) {
		var list []api.File
		for piece := range bytes.SplitSeq(data, []byte{1}) {
			name, rest, _ := bytes.Cut(piece, []byte{2})
			list = append(list, api.File{Name: string(name), Data: rest})
		}
		half := len(list) / 2
		agrees(t, New(list...), list, every...)
		agrees(t, New(list[:half]...).Over(New(list[half:]...)), list, every...)
		agreesOnLine(t, string(data), offset)
		for at := -1; at <= len(data)+1; at++ {
			agreesOnLine(t, string(data), at)
		}
	})
}
