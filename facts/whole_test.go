package facts

import (
	"math/rand"
	"slices"
	"strings"
	"sync"
	"testing"
	"unsafe"

	"inkling/api"
)

// P10.7

// textsOf are all texts of so many of these bytes and fewer.
func textsOf(bytes string, most int) []string {
	all := []string{""}
	for i := 0; len(all[i]) < most; i++ {
		for k := range len(bytes) {
			all = append(all, all[i]+bytes[k:k+1])
		}
	}
	return all
}

func TestAllShortTexts(t *testing.T) {
	for _, text := range textsOf("\t\n\\nx", 6) {
		wantLawsOfText(t, text)
	}
	for _, text := range textsOf("\\t\xff\n", 6) {
		wantLawsOfText(t, text)
	}
}

func TestAllShortListsOfTuples(t *testing.T) {
	constants := []string{"", "a", "\\", "\t", "\\t", "\n"}
	var pairs, ones [][]string
	for _, a := range constants {
		ones = append(ones, []string{a})
		for _, b := range constants {
			pairs = append(pairs, []string{a, b})
		}
	}
	for _, a := range append(ones, pairs...) {
		wantLawsOfTuples(t, [][]string{a}, len(a))
		for _, b := range append(ones, pairs...) {
			wantLawsOfTuples(t, [][]string{a, b}, len(a))
			wantLawsOfTuples(t, [][]string{a, b, a}, len(a))
		}
	}
}

// Unlike tuples of one length, two at the least, have unlike lines.
func TestLinesTellTuplesApart(t *testing.T) {
	texts := textsOf("\t\\n\n", 2)
	tuples := make(map[string][]string)
	for _, a := range texts {
		for _, b := range texts {
			line, _ := Line(a, b)
			if other, there := tuples[line]; there {
				t.Errorf("%q and %q have the line %q", other, []string{a, b}, line)
			}
			tuples[line] = []string{a, b}
		}
	}
}

// drawText has few plain bytes, and now and then a field that is as long as one may be, or longer by one.
func drawText(r *rand.Rand, count int) string {
	pieces := []string{"\t", "\n", `\t`, `\n`, `\\`, "a", "t", "n", "\x00", "é", "\xff", "\r", " "}
	var text strings.Builder
	for range count {
		switch r.Intn(60) {
		case 0:
			text.WriteByte('\\')
		case 1:
			text.WriteString(times(1023+r.Intn(3), pieces[2+r.Intn(6)]))
		default:
			text.WriteString(pieces[r.Intn(len(pieces))])
		}
	}
	return text.String()
}

func TestDrawnTexts(t *testing.T) {
	r := rand.New(rand.NewSource(101))
	for range 1500 {
		wantLawsOfText(t, drawText(r, r.Intn(25)))
	}
}

// drawTuples are mostly of the arity, and mostly of constants.
func drawTuples(r *rand.Rand, count, arity int) [][]string {
	tuples := make([][]string, count)
	for i := range tuples {
		length := arity
		if r.Intn(60) == 0 {
			length = r.Intn(18)
		}
		for range length {
			constant := drawText(r, r.Intn(4))
			tuples[i] = append(tuples[i], constant[:min(len(constant), 1024+r.Intn(2))])
		}
	}
	return tuples
}

func TestDrawnTuples(t *testing.T) {
	r := rand.New(rand.NewSource(102))
	for range 1000 {
		arity := r.Intn(6)
		wantLawsOfTuples(t, drawTuples(r, r.Intn(9), arity), arity)
	}
	for range 60 {
		arity := r.Intn(17)
		wantLawsOfTuples(t, drawTuples(r, 5, arity), arity)
	}
}

func TestRelationOfAListInAnotherOrder(t *testing.T) {
	r := rand.New(rand.NewSource(103))
	for range 300 {
		tuples := make([][]string, r.Intn(30))
		for i := range tuples {
			tuples[i] = []string{times(r.Intn(3), "a"), string(rune('a' + r.Intn(3)))}
		}
		rising := plainRising(tuples)
		wantRelation(t, "p", 2, tuples, rising)
		turned := slices.Concat(tuples, tuples[:len(tuples)/2])
		r.Shuffle(len(turned), func(i, k int) { turned[i], turned[k] = turned[k], turned[i] })
		wantRelation(t, "p", 2, turned, rising)
		wantRelation(t, "p", 2, rising, rising)
	}
}

// FuzzFacts holds a text, and the tuples that its lines cut by bytes 1 are, against the document's words.
func FuzzFacts(f *testing.F) {
	f.Add("a\tb\nc\td", 2)
	f.Add("a\x01b\n\\\x01\t", 2)
	f.Add(`a\q\\`, 1)
	f.Add("\n\n", 0)
	f.Add(times(1025, "x")+"\n", -1)
	f.Fuzz(func(t *testing.T, text string, arity int) {
		wantLawsOfText(t, text)
		wantLawsOfRead(t, text, arity)
		var tuples [][]string
		for line := range strings.SplitSeq(text, "\n") {
			tuples = append(tuples, strings.Split(line, "\x01"))
		}
		wantLawsOfTuples(t, tuples, arity)
		wantLawsOfTuples(t, tuples, len(tuples[0]))
		wantLawsOfTuples(t, tuples[:1], len(tuples[0]))
	})
}

// P10.8

// roomy has spare room behind it, which must stay as it is.
func roomy[T any](list []T, other T) []T { return append(slices.Clone(list), other, other)[:len(list)] }

// sampleTuples have spare room behind all lists.
func sampleTuples() [][]string {
	var tuples [][]string
	for _, tuple := range list("b a", "a b", "b a", "a -") {
		tuples = append(tuples, roomy(tuple, "spare"))
	}
	return roomy(tuples, []string{"spare"})
}

// withRoom is all of it, spare room included.
func withRoom(tuples [][]string) [][]string {
	var all [][]string
	for _, tuple := range tuples[:cap(tuples)] {
		all = append(all, slices.Clone(tuple[:cap(tuple)]))
	}
	return all
}

func TestWhatIsHandedInStays(t *testing.T) {
	for _, arity := range []int{-1, 0, 1, 2, 3, 17} {
		tuples := sampleTuples()
		before := withRoom(tuples)
		Write(tuples, arity)
		Relation("p", arity, tuples)
		Line(tuples[0]...)
		Line(roomy(make([]string, 17), "spare")...)
		if !sameTuples(withRoom(tuples), before) {
			t.Errorf("what was handed in was %q; is %q", before, withRoom(tuples))
		}
	}
}

// loose is a text over memory that a test may change afterwards.
func loose(s string) (string, []byte) {
	memory := []byte(s)
	return unsafe.String(unsafe.SliceData(memory), len(memory)), memory
}

// answersOf are all texts that the calls answer of a text, by itself and in tuples.
func answersOf(text string) []string {
	escaped, _ := Escape(text)
	unescaped, _, _ := Unescape(text)
	line, _ := Line(text, text)
	split, _, _ := Split(text)
	read, _, _ := Read(text, 1)
	written, _ := Write([][]string{{text}, {text}}, 1)
	relation, _ := Relation(text, 2, [][]string{{text, "b"}, {"a", text}, {text, text}})
	answers := append([]string{escaped, unescaped, line, written, relation.Pred}, split...)
	return append(answers, slices.Concat(slices.Concat(read...), slices.Concat(relation.Tuples...))...)
}

func TestAnswersHangOnNothing(t *testing.T) {
	for _, text := range []string{"abc", `a\tb`, "a b c d", times(1000, "x"), "\\\\"} {
		handed, memory := loose(text)
		answers, wanted := answersOf(handed), answersOf(text)
		for i := range memory {
			memory[i] = '?'
		}
		if !slices.Equal(answers, wanted) {
			t.Errorf("the answers of %q are %q now", short(text), answers)
		}
	}
}

func overlap(a, b string) bool {
	x, y := uintptr(unsafe.Pointer(unsafe.StringData(a))), uintptr(unsafe.Pointer(unsafe.StringData(b)))
	return x < y+uintptr(len(b)) && y < x+uintptr(len(a))
}

// Of the texts of an answer none shares memory with another one, even where they are the same and were handed in as one.
func TestTextsOfAnAnswerAreApart(t *testing.T) {
	one := "a constant"
	relation, _ := Relation(one, 2, [][]string{{one, one}, {one, "another one"}})
	split, _, _ := Split("ab\tab\tab")
	read, _, _ := Read("ab\tab\nab\tab\n", 2)
	for _, texts := range [][]string{append(slices.Concat(relation.Tuples...), relation.Pred, one), split, slices.Concat(read...)} {
		for i, a := range texts {
			for _, b := range texts[:i] {
				if overlap(a, b) {
					t.Errorf("%q and %q of %q share memory", a, b, texts)
				}
			}
		}
	}
}

// scribble writes over all lists of an answer, spare room included.
func scribble(tuples [][]string) {
	for _, tuple := range tuples {
		for i := range tuple[:cap(tuple)] {
			tuple[:cap(tuple)][i] = "?"
		}
	}
	for i := range tuples[:cap(tuples)] {
		tuples[:cap(tuples)][i] = []string{"?"}
	}
}

func TestListsOfAnAnswerAreApart(t *testing.T) {
	tuples := list("b a", "a b", "b a", "a -")
	first, _ := Relation("p", 2, tuples)
	second, _ := Relation("p", 2, tuples)
	rising := list("a -", "a b", "b a")
	scribble(first.Tuples)
	if !sameTuples(second.Tuples, rising) || !sameTuples(tuples, list("b a", "a b", "b a", "a -")) {
		t.Errorf("%q beside an answer that was changed; handed in was %q", second.Tuples, tuples)
	}
	for i := range second.Tuples {
		scribble(second.Tuples[i : i+1 : i+1])
		for k := i + 1; k < len(second.Tuples); k++ {
			if !slices.Equal(second.Tuples[k], rising[k]) {
				t.Errorf("the tuple %d is %q behind a change of %d", k, second.Tuples[k], i)
			}
		}
	}
	text := "a\tb\nc\td\n"
	read, _, _ := Read(text, 2)
	scribble(read[:1:1])
	if !slices.Equal(read[1], []string{"c", "d"}) {
		t.Errorf("the second tuple is %q behind a change of the first", read[1])
	}
	scribble(read)
	wantRead(t, text, 2, list("a b", "c d"))
}

// Room for a constant is made once, however many lines and constants there are.
func TestRoomIsMadeOnce(t *testing.T) {
	line := times(50, times(1000, "x")+"\t") + "\n"
	lines := times(40, line)
	few := testing.AllocsPerRun(5, func() { Scan(line) })
	many := testing.AllocsPerRun(5, func() { Scan(lines) })
	if many > few {
		t.Errorf("Scan makes room %v times of 40 lines, %v times of one", many, few)
	}
}

// Tuples that are changed behind the call change nothing of its answer.
func TestTuplesThatAreChangedAfterwards(t *testing.T) {
	tuples := list("b a", "a b")
	relation, _ := Relation("p", 2, tuples)
	tuples[0][0], tuples[1] = "?", nil
	if !sameTuples(relation.Tuples, list("a b", "b a")) {
		t.Errorf("the relation is %q behind a change of the tuples", relation.Tuples)
	}
}

// Nothing is kept from call to call, so any number may call at once (go test -race would tell).
func TestManyCallAtOnce(t *testing.T) {
	tuples := sampleTuples()
	var all sync.WaitGroup
	for range 8 {
		all.Go(func() {
			wantLawsOfTuples(t, tuples, 2)
			wantLawsOfText(t, "a\\t\tb\n\\\\\t\n")
			wantRefused(t, tuples, 3, api.ErrArg)
		})
	}
	all.Wait()
}
