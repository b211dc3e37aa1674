package intern

import (
	"fmt"
	"math"
	"math/rand"
	"slices"
	"strings"
	"testing"
	"unsafe"

	"inkling/api"
)

// example is the table of the chapter's examples: b, a and the empty text.
func example(t *testing.T) *Table {
	t.Helper()
	x := New()
	for i, want := range []int{0, 1, 2, 0} {
		text := []string{"b", "a", "", "b"}[i]
		if n, e := x.Put(text); n != want || e != api.OK {
			t.Fatalf("Put(%q) is %d, %v; want %d, OK", text, n, e, want)
		}
	}
	return x
}

// holds checks by every call that tells something that a table has just these texts, in this order.
func holds(t *testing.T, x *Table, texts ...string) {
	t.Helper()
	if x.Len() != len(texts) {
		t.Errorf("Len is %d; want %d", x.Len(), len(texts))
	}
	for n, text := range texts {
		if s, ok := x.Text(n); s != text || !ok {
			t.Errorf("Text(%d) is %q, %v; want %q", n, s, ok, text)
		}
		if m, ok := x.Find(text); m != n || !ok {
			t.Errorf("Find(%q) is %d, %v; want %d", text, m, ok, n)
		}
	}
	if told := tell(x); !slices.Equal(told, texts) {
		t.Errorf("All tells %q; want %q", told, texts)
	}
}

// tell gathers what All tells; a number that is not the next one spoils the text at its place.
func tell(x *Table) []string {
	var told []string
	for n, text := range x.All() {
		if n != len(told) {
			text = fmt.Sprint("number ", n, " of ", text)
		}
		told = append(told, text)
	}
	return told
}

// sample draws texts from few bytes, so that many are alike or begin with one another; the same seed draws the same texts.
func sample(seed int64, count int) []string {
	r := rand.New(rand.NewSource(seed))
	texts := make([]string, count)
	for i := range texts {
		b := make([]byte, r.Intn(4))
		for j := range b {
			b[j] = []byte{0, 'a', 'b', 127, 128, 255}[r.Intn(6)]
		}
		texts[i] = string(b)
	}
	return texts
}

// wrongNumbers are numbers that no table of some few texts has a text for.
func wrongNumbers(length int) []int {
	return []int{-1, -2, length, length + 1, math.MinInt, math.MaxInt}
}

// P1.1

func TestNewHasNoTexts(t *testing.T) {
	x := New()
	if x == nil {
		t.Fatal("New answers no table")
	}
	holds(t, x)
	if _, ok := x.Find(""); ok {
		t.Error("a new table has the empty text")
	}
	if len(x.Ranks()) != 0 || len(x.Rising()) != 0 {
		t.Error("a new table has ranks")
	}
}

func TestTablesAreApart(t *testing.T) {
	x, y := New(), New()
	x.Put("a")
	holds(t, y)
	y.PutAll("b", "a")
	holds(t, x, "a")
	holds(t, y, "b", "a")
}

// P1.2

func TestPut(t *testing.T) {
	holds(t, example(t), "b", "a", "")
}

func TestPutAll(t *testing.T) {
	x := example(t)
	l, e := x.PutAll("a", "ab", "a")
	if !slices.Equal(l, []int{1, 3, 1}) || e != api.OK {
		t.Errorf("PutAll is %v, %v; want 1 3 1", l, e)
	}
	holds(t, x, "b", "a", "", "ab")
}

func TestPutAllOfNoTexts(t *testing.T) {
	x := example(t)
	if l, e := x.PutAll(); len(l) != 0 || e != api.OK {
		t.Errorf("PutAll of nothing is %v, %v", l, e)
	}
	if l, e := x.PutAll([]string{}...); len(l) != 0 || e != api.OK {
		t.Errorf("PutAll of an empty list is %v, %v", l, e)
	}
	holds(t, x, "b", "a", "")
}

func TestPutAllIsPutOneByOne(t *testing.T) {
	texts := sample(1, 300)
	x, y := New(), New()
	numbers, e := x.PutAll(texts...)
	if e != api.OK || len(numbers) != len(texts) {
		t.Fatalf("PutAll answers %d numbers, %v", len(numbers), e)
	}
	for i, text := range texts {
		if n, e := y.Put(text); n != numbers[i] || e != api.OK {
			t.Fatalf("Put of text %d is %d, %v; PutAll says %d", i, n, e, numbers[i])
		}
	}
	holds(t, x, tell(y)...)
}

func TestTextsOfAnyBytesAndLength(t *testing.T) {
	long := strings.Repeat("x", 1<<20)
	texts := []string{long, long + "x", "\x00", "\x00\x00", "\xff\xfe", "\n", "é", "e\u0301", "A", "a"}
	x := New()
	for want, text := range texts {
		if n, e := x.Put(text); n != want || e != api.OK {
			t.Errorf("Put of text %d is %d, %v", want, n, e)
		}
	}
	holds(t, x, texts...)
}

// P1.3

func TestFind(t *testing.T) {
	x := example(t)
	if n, ok := x.Find("a"); n != 1 || !ok {
		t.Errorf("Find(a) is %d, %v", n, ok)
	}
	if n, ok := x.Find(""); n != 2 || !ok {
		t.Errorf("Find of the empty text is %d, %v", n, ok)
	}
	for _, text := range []string{"c", "aa", "A", "a ", "\x00"} {
		if n, ok := x.Find(text); n != 0 || ok {
			t.Errorf("Find(%q) is %d, %v; want 0, false", text, n, ok)
		}
	}
	holds(t, x, "b", "a", "")
}

func TestText(t *testing.T) {
	x := example(t)
	if s, ok := x.Text(2); s != "" || !ok {
		t.Errorf("Text(2) is %q, %v", s, ok)
	}
	for _, n := range wrongNumbers(3) {
		if s, ok := x.Text(n); s != "" || ok {
			t.Errorf("Text(%d) is %q, %v; want none, false", n, s, ok)
		}
	}
	if s, ok := New().Text(0); s != "" || ok {
		t.Errorf("Text(0) of a new table is %q, %v", s, ok)
	}
}

func TestLen(t *testing.T) {
	x := New()
	for i, want := range []int{1, 1, 2, 3, 3} {
		x.Put([]string{"", "", "a", "b", "a"}[i])
		if x.Len() != want {
			t.Errorf("Len behind %d puts is %d; want %d", i+1, x.Len(), want)
		}
	}
}

// P1.4

func TestTexts(t *testing.T) {
	x := example(t)
	if l, e := x.Texts(0, 0, 1); !slices.Equal(l, []string{"b", "b", "a"}) || e != api.OK {
		t.Errorf("Texts(0, 0, 1) is %q, %v", l, e)
	}
	if l, e := x.Texts(2); !slices.Equal(l, []string{""}) || e != api.OK {
		t.Errorf("Texts(2) is %q, %v", l, e)
	}
	if l, e := x.Texts(); len(l) != 0 || e != api.OK {
		t.Errorf("Texts() is %q, %v", l, e)
	}
	if l, e := New().Texts(); len(l) != 0 || e != api.OK {
		t.Errorf("Texts() of a new table is %q, %v", l, e)
	}
}

func TestTextsOfWrongNumbers(t *testing.T) {
	x := example(t)
	for _, n := range wrongNumbers(3) {
		for _, numbers := range [][]int{{n}, {n, 1}, {1, n}, {0, n, 1}} {
			if l, e := x.Texts(numbers...); len(l) != 0 || e != api.ErrArg {
				t.Errorf("Texts%v is %q, %v; want none, ErrArg", numbers, l, e)
			}
		}
	}
	if l, e := New().Texts(0); len(l) != 0 || e != api.ErrArg {
		t.Errorf("Texts(0) of a new table is %q, %v", l, e)
	}
}

// P1.5

func TestAllTellsNumbersRising(t *testing.T) {
	x := example(t)
	if told := tell(x); !slices.Equal(told, []string{"b", "a", ""}) {
		t.Errorf("All tells %q", told)
	}
	x.Put("ab")
	if told := tell(x); !slices.Equal(told, []string{"b", "a", "", "ab"}) {
		t.Errorf("All tells %q behind a further text", told)
	}
}

func TestAllTellsWhatStoodThere(t *testing.T) {
	x := example(t)
	x.Put("ab")
	all := x.All()
	var told []int
	for n := range all {
		told = append(told, n)
		x.Put(fmt.Sprint("new", n))
		if n == 100 {
			t.Fatal("All tells what is put while it is gone through")
		}
	}
	if !slices.Equal(told, []int{0, 1, 2, 3}) {
		t.Errorf("All tells %v; want the four that stood there", told)
	}
	holds(t, x, "b", "a", "", "ab", "new0", "new1", "new2", "new3")
	turns := 0
	for range all {
		turns++
	}
	if turns != 8 {
		t.Errorf("the next loop tells %d; want 8", turns)
	}
}

func TestAllBeginsWhenTheLoopDoes(t *testing.T) {
	x := New()
	all := x.All()
	for range all {
		t.Error("All of a new table tells something")
	}
	x.PutAll("a", "b")
	var told []string
	for _, text := range all {
		told = append(told, text)
	}
	if !slices.Equal(told, []string{"a", "b"}) {
		t.Errorf("All tells %q of what was put ahead of the loop", told)
	}
}

func TestAllOfLoopsWithinLoops(t *testing.T) {
	x := New()
	x.PutAll("a", "b")
	all := x.All()
	var told []string
	for _, outer := range all {
		for _, inner := range all {
			told = append(told, outer+inner)
			x.Put(outer + inner)
			if len(told) == 100 {
				t.Fatal("All tells what is put while it is gone through")
			}
		}
	}
	want := []string{"aa", "ab", "ba", "bb", "baa", "bab"}
	if !slices.Equal(told, want) {
		t.Errorf("loops within loops tell %q; want %q", told, want)
	}
}

func TestAllLeftEarly(t *testing.T) {
	x := example(t)
	all := x.All()
	for leave := range 3 {
		last := -1
		for n := range all {
			last = n
			if n == leave {
				break
			}
		}
		if last != leave {
			t.Errorf("a loop that is left at %d came to %d", leave, last)
		}
	}
	turns := 0
	all(func(int, string) bool { turns++; return false })
	if turns != 1 {
		t.Errorf("All goes on for %d turns though it is told to stop", turns)
	}
	var told []string
	for _, text := range all {
		told = append(told, text)
	}
	if !slices.Equal(told, []string{"b", "a", ""}) {
		t.Errorf("behind loops that were left All tells %q", told)
	}
	holds(t, x, "b", "a", "")
}

// P1.6

func TestRanksAndRising(t *testing.T) {
	x := example(t)
	if l := x.Ranks(); !slices.Equal(l, []int{2, 1, 0}) {
		t.Errorf("Ranks are %v", l)
	}
	if l := x.Rising(); !slices.Equal(l, []int{2, 1, 0}) {
		t.Errorf("Rising is %v", l)
	}
	x.PutAll("a", "ab", "a")
	if l := x.Ranks(); !slices.Equal(l, []int{3, 1, 0, 2}) {
		t.Errorf("Ranks are %v behind a further text", l)
	}
	if l := x.Rising(); !slices.Equal(l, []int{2, 1, 3, 0}) {
		t.Errorf("Rising is %v behind a further text", l)
	}
	holds(t, x, "b", "a", "", "ab")
}

func TestRisingIsByBytes(t *testing.T) {
	rising := []string{"", "\x00", "\x00\x00", "10", "9", "A", "Z", "a", "a\x00", "aa", "a\xff", "b", "é", "\xff", "\xff\x00"}
	x := New()
	for _, i := range []int{7, 0, 14, 3, 9, 1, 12, 5, 10, 2, 13, 4, 11, 6, 8} {
		x.Put(rising[i])
	}
	texts, e := x.Texts(x.Rising()...)
	if !slices.Equal(texts, rising) || e != api.OK {
		t.Errorf("the texts by rising ranks are %q, %v", texts, e)
	}
}

func TestRanksCountTheTextsBelow(t *testing.T) {
	for seed := range int64(20) {
		x := New()
		x.PutAll(sample(seed, int(seed)*10)...)
		texts := tell(x)
		ranks := x.Ranks()
		if len(ranks) != len(texts) {
			t.Fatalf("there are %d ranks of %d texts", len(ranks), len(texts))
		}
		for n, text := range texts {
			below := 0
			for _, other := range texts {
				if other < text {
					below++
				}
			}
			if ranks[n] != below {
				t.Errorf("the rank of %q is %d; want %d", text, ranks[n], below)
			}
		}
	}
}

// P1.7

func TestCompare(t *testing.T) {
	x := example(t)
	x.PutAll("ab", "\xff")
	for a, s := range tell(x) {
		for b, u := range tell(x) {
			if n, e := x.Compare(a, b); n != strings.Compare(s, u) || e != api.OK {
				t.Errorf("Compare of %q with %q is %d, %v", s, u, n, e)
			}
		}
	}
	for _, c := range [][3]int{{0, 1, 1}, {1, 0, -1}, {2, 2, 0}} {
		if n, e := x.Compare(c[0], c[1]); n != c[2] || e != api.OK {
			t.Errorf("Compare(%d, %d) is %d, %v; want %d", c[0], c[1], n, e, c[2])
		}
	}
}

func TestCompareOfWrongNumbers(t *testing.T) {
	x := example(t)
	for _, n := range append(wrongNumbers(3), 7) {
		for _, pair := range [][2]int{{n, 0}, {0, n}, {n, n}, {n, -n}} {
			if c, e := x.Compare(pair[0], pair[1]); c != 0 || e != api.ErrArg {
				t.Errorf("Compare%v is %d, %v; want 0, ErrArg", pair, c, e)
			}
		}
	}
	if c, e := New().Compare(0, 0); c != 0 || e != api.ErrArg {
		t.Errorf("Compare(0, 0) of a new table is %d, %v", c, e)
	}
}

// P1.8

func TestCopyGoesOnApart(t *testing.T) {
	x := example(t)
	c := x.Copy()
	holds(t, c, "b", "a", "")
	if n, e := c.Put("of the copy"); n != 3 || e != api.OK {
		t.Errorf("Put into the copy is %d, %v", n, e)
	}
	holds(t, x, "b", "a", "")
	if n, e := x.Put("of the first"); n != 3 || e != api.OK {
		t.Errorf("Put into what was copied is %d, %v", n, e)
	}
	holds(t, x, "b", "a", "", "of the first")
	holds(t, c, "b", "a", "", "of the copy")
	if _, ok := c.Find("of the first"); ok {
		t.Error("the copy has what was put into the other table")
	}
	if _, ok := x.Find("of the copy"); ok {
		t.Error("the table has what was put into its copy")
	}
}

func TestCopiesAtEveryLength(t *testing.T) {
	x := New()
	var texts []string
	for n := range 70 {
		c, d := x.Copy(), x.Copy()
		c.Put("c")
		d.Put("d")
		x.Put(fmt.Sprint(n))
		holds(t, c, append(slices.Clone(texts), "c")...)
		holds(t, d, append(slices.Clone(texts), "d")...)
		texts = append(texts, fmt.Sprint(n))
		holds(t, x, texts...)
	}
}

func TestCopyOfNoTexts(t *testing.T) {
	x := New()
	c := x.Copy()
	if c == nil {
		t.Fatal("the copy of a new table is none")
	}
	if n, e := c.Put("a"); n != 0 || e != api.OK {
		t.Errorf("Put into it is %d, %v", n, e)
	}
	holds(t, c, "a")
	holds(t, x)
}

// P1.9

func TestNumbersNeverTurn(t *testing.T) {
	x := New()
	first := map[string]int{}
	for _, text := range sample(2, 2000) {
		n, e := x.Put(text)
		if e != api.OK {
			t.Fatalf("Put(%q) answers %v", text, e)
		}
		if old, ok := first[text]; !ok {
			first[text] = n
		} else if old != n {
			t.Errorf("the number of %q was %d and is %d", text, old, n)
		}
	}
	holders := map[int]string{}
	for text, n := range first {
		if other, ok := holders[n]; ok {
			t.Errorf("%q and %q have the number %d", text, other, n)
		}
		holders[n] = text
		if m, ok := x.Find(text); m != n || !ok {
			t.Errorf("Find(%q) is %d, %v; want %d", text, m, ok, n)
		}
	}
	if x.Len() != len(first) {
		t.Errorf("Len is %d of %d texts", x.Len(), len(first))
	}
}

func TestRanksAreEachNumberOnce(t *testing.T) {
	x := New()
	x.PutAll(sample(3, 500)...)
	for name, l := range map[string][]int{"Ranks": x.Ranks(), "Rising": x.Rising()} {
		slices.Sort(l)
		for i, n := range l {
			if n != i {
				t.Fatalf("%s, sorted, has %d at %d", name, n, i)
			}
		}
		if len(l) != x.Len() {
			t.Errorf("%s has %d numbers of %d texts", name, len(l), x.Len())
		}
	}
	ranks := x.Ranks()
	for rank, n := range x.Rising() {
		if ranks[n] != rank {
			t.Errorf("the rank of %d is %d; Rising has it at %d", n, ranks[n], rank)
		}
	}
}

func TestSameTextsInAnyOrder(t *testing.T) {
	texts := sample(4, 400)
	x, y := New(), New()
	x.PutAll(texts...)
	shuffled := append(slices.Clone(texts), texts[:100]...)
	rand.New(rand.NewSource(5)).Shuffle(len(shuffled), func(i, j int) {
		shuffled[i], shuffled[j] = shuffled[j], shuffled[i]
	})
	y.PutAll(shuffled...)
	a, _ := x.Texts(x.Rising()...)
	b, _ := y.Texts(y.Rising()...)
	if !slices.Equal(a, b) || !slices.IsSorted(a) || len(a) != x.Len() {
		t.Errorf("by rising ranks one has %q, the other %q", a, b)
	}
}

// P1.10

func TestTableThatIsNotThere(t *testing.T) {
	for name, x := range map[string]*Table{"nil": nil, "zero": {}} {
		t.Run(name, func(t *testing.T) {
			refuses(t, x)
			tellsNothing(t, x)
			refuses(t, x)
		})
	}
}

func refuses(t *testing.T, x *Table) {
	if n, e := x.Put("a"); n != 0 || e != api.ErrNil {
		t.Errorf("Put is %d, %v", n, e)
	}
	for _, texts := range [][]string{nil, {"a"}, {"", "b"}} {
		if l, e := x.PutAll(texts...); l != nil || e != api.ErrNil {
			t.Errorf("PutAll%q is %v, %v", texts, l, e)
		}
	}
	for _, numbers := range [][]int{nil, {0}, {-1}} {
		if l, e := x.Texts(numbers...); l != nil || e != api.ErrNil {
			t.Errorf("Texts%v is %q, %v", numbers, l, e)
		}
	}
	for _, pair := range [][2]int{{0, 0}, {-1, 7}} {
		if n, e := x.Compare(pair[0], pair[1]); n != 0 || e != api.ErrNil {
			t.Errorf("Compare%v is %d, %v", pair, n, e)
		}
	}
	if x.Copy() != nil {
		t.Error("Copy answers a table")
	}
}

func tellsNothing(t *testing.T, x *Table) {
	for _, text := range []string{"", "a"} {
		if n, ok := x.Find(text); n != 0 || ok {
			t.Errorf("Find(%q) is %d, %v", text, n, ok)
		}
	}
	for _, n := range append(wrongNumbers(0), 0) {
		if s, ok := x.Text(n); s != "" || ok {
			t.Errorf("Text(%d) is %q, %v", n, s, ok)
		}
	}
	if x.Len() != 0 {
		t.Errorf("Len is %d", x.Len())
	}
	if x.Ranks() != nil || x.Rising() != nil {
		t.Error("there are ranks")
	}
	all := x.All()
	if all == nil {
		t.Fatal("All is not there")
	}
	for range all {
		t.Error("All tells something")
	}
}

func TestWhatIsHandedInStays(t *testing.T) {
	texts := []string{"a", "b", "spare"}
	numbers := []int{1, 0, 77}
	x := New()
	x.PutAll(texts[:2]...)
	x.Texts(numbers[:2]...)
	if !slices.Equal(texts, []string{"a", "b", "spare"}) || !slices.Equal(numbers, []int{1, 0, 77}) {
		t.Errorf("what was handed in is now %q, %v", texts, numbers)
	}
}

func TestWhatIsHandedInIsNotKept(t *testing.T) {
	texts := []string{"a", "b"}
	x := New()
	x.PutAll(texts...)
	texts[0], texts[1] = "c", "d"
	holds(t, x, "a", "b")

	memory := []byte("text")
	x.Put(unsafe.String(&memory[0], len(memory)))
	copy(memory, "else")
	holds(t, x, "a", "b", "text")

	memory = []byte("more")
	x.PutAll(unsafe.String(&memory[0], len(memory)))
	copy(memory, "else")
	holds(t, x, "a", "b", "text", "more")
}

func TestWhatIsAnsweredIsNewMemory(t *testing.T) {
	x := example(t)
	lists := map[string]func() []int{
		"PutAll": func() []int { l, _ := x.PutAll("b", "a", ""); return l },
		"Ranks":  x.Ranks,
		"Rising": x.Rising,
	}
	for name, ask := range lists {
		l, other := ask(), ask()
		want := slices.Clone(l)
		spoil(l, -7)
		if !slices.Equal(other, want) || !slices.Equal(ask(), want) {
			t.Errorf("%s: a change of one answer is seen in another", name)
		}
	}
	l, _ := x.Texts(0, 1, 2)
	other, _ := x.Texts(0, 1, 2)
	spoil(l, "spoilt")
	if !slices.Equal(other, []string{"b", "a", ""}) {
		t.Errorf("Texts: a change of one answer is seen in another: %q", other)
	}
	holds(t, x, "b", "a", "")
	x.Put("ab")
	holds(t, x, "b", "a", "", "ab")
}

// spoil writes over a list and the spare room behind it.
func spoil[T any](l []T, with T) {
	l = l[:cap(l)]
	for i := range l {
		l[i] = with
	}
}

// FuzzTable holds a table against a plain list, text by text.
func FuzzTable(f *testing.F) {
	f.Add("b a  b")
	f.Add("")
	f.Add("\x00 \xff a aa a\x00 é")
	f.Fuzz(func(t *testing.T, line string) {
		x := New()
		var plain []string
		for _, text := range strings.Split(line, " ") {
			want := slices.Index(plain, text)
			if want < 0 {
				want = len(plain)
				plain = append(plain, text)
			}
			if n, e := x.Put(text); n != want || e != api.OK {
				t.Fatalf("Put(%q) is %d, %v; want %d", text, n, e, want)
			}
		}
		holds(t, x, plain...)
		holds(t, x.Copy(), plain...)
		slices.Sort(plain)
		if texts, e := x.Texts(x.Rising()...); e != api.OK || !slices.Equal(texts, plain) {
			t.Errorf("by rising ranks: %q, %v; want %q", texts, e, plain)
		}
	})
}
