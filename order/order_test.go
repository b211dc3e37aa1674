package order

import (
	"cmp"
	"fmt"
	"math"
	"math/rand"
	"slices"
	"strings"
	"testing"
)

// pair is a number by which it is ordered and a mark by which alike ones are told apart.
type pair struct {
	n    int
	mark string
}

func (p pair) String() string { return fmt.Sprint(p.n, p.mark) }

func by(a, b pair) int { return cmp.Compare(a.n, b.n) }

// pairs reads a list such as 2a 1a.
func pairs(text string) []pair {
	var l []pair
	for _, word := range strings.Fields(text) {
		l = append(l, pair{int(word[0] - '0'), word[1:]})
	}
	return l
}

// say is what pairs reads.
func say(l []pair) string {
	words := make([]string, len(l))
	for i, p := range l {
		words[i] = p.String()
	}
	return strings.Join(words, " ")
}

func want(t *testing.T, call string, got []pair, wanted string) {
	t.Helper()
	if say(got) != wanted {
		t.Errorf("%s is %q; want %q", call, say(got), wanted)
	}
}

// orders are of all sorts: what is handed to a call, and what that means.
var orders = []struct {
	name         string
	given, meant func(a, b pair) int
}{
	{"by number", by, by},
	{"backward", func(a, b pair) int { return by(b, a) }, func(a, b pair) int { return by(b, a) }},
	{"far from 0", far, far},
	{"by halves", func(a, b pair) int { return a.n/2 - b.n/2 }, func(a, b pair) int { return a.n/2 - b.n/2 }},
	{"by number and mark", byAll, byAll},
	{"all alike", alike, alike},
	{"nil", nil, alike},
}

func alike(a, b pair) int { return 0 }

// far says the least and the greatest int, of which the least stays as it is when its sign is turned.
func far(a, b pair) int {
	switch c := by(a, b); {
	case c < 0:
		return math.MinInt
	case c > 0:
		return math.MaxInt
	}
	return 0
}

func byAll(a, b pair) int { return cmp.Or(by(a, b), strings.Compare(a.mark, b.mark)) }

// lists are all lists of at most most elements with the numbers 0, 1 and 2, each marked by its place.
func lists(most int) [][]pair {
	all := [][]pair{nil}
	for i := 0; len(all[i]) < most; i++ {
		mark := string(rune('a' + len(all[i])))
		for n := range 3 {
			all = append(all, append(slices.Clone(all[i]), pair{n, mark}))
		}
	}
	return all
}

// scattered are long lists with few numbers and with many, each element marked by its place; the same each time.
func scattered() [][]pair {
	r := rand.New(rand.NewSource(5))
	var all [][]pair
	for _, length := range []int{12, 13, 20, 21, 40, 41, 100, 777} {
		for _, numbers := range []int{2, 7, 100} {
			l := make([]pair, length)
			for i := range l {
				l[i] = pair{r.Intn(numbers), fmt.Sprint("-", i)}
			}
			all = append(all, l)
		}
	}
	return all
}

func sample() [][]pair { return append(lists(5), scattered()...) }

// plainSorted says the promise's words: no element comes ahead of the one before it.
func plainSorted(l []pair, compare func(a, b pair) int) bool {
	for i := 1; i < len(l); i++ {
		if compare(l[i], l[i-1]) < 0 {
			return false
		}
	}
	return true
}

func plainIsSet(l []pair, compare func(a, b pair) int) bool {
	for i := 1; i < len(l); i++ {
		if compare(l[i], l[i-1]) <= 0 {
			return false
		}
	}
	return true
}

// plainFirst is the place of what comes first, of alike ones of the first.
func plainFirst(l []pair, compare func(a, b pair) int) int {
	first := 0
	for i := range l {
		if compare(l[i], l[first]) < 0 {
			first = i
		}
	}
	return first
}

// plainSort takes out what comes first until nothing is left.
func plainSort(l []pair, compare func(a, b pair) int) []pair {
	rest := slices.Clone(l)
	var sorted []pair
	for len(rest) > 0 {
		first := plainFirst(rest, compare)
		sorted = append(sorted, rest[first])
		rest = slices.Delete(rest, first, first+1)
	}
	return sorted
}

// plainWith are those of a of which it is so that an element of b is alike, or that none is.
func plainWith(a, b []pair, compare func(a, b pair) int, so bool) []pair {
	var kept []pair
	for _, x := range a {
		if slices.ContainsFunc(b, func(y pair) bool { return compare(x, y) == 0 }) == so {
			kept = append(kept, x)
		}
	}
	return kept
}

func plainSet(l []pair, compare func(a, b pair) int) []pair {
	var set []pair
	for _, x := range plainSort(l, compare) {
		if len(plainWith([]pair{x}, set, compare, true)) == 0 {
			set = append(set, x)
		}
	}
	return set
}

func plainUnion(a, b []pair, compare func(a, b pair) int) []pair {
	return plainSort(append(slices.Clone(a), plainWith(b, a, compare, false)...), compare)
}

// P5.1

func sign(c int) int { return cmp.Compare(c, 0) }

// plainLists says the promise's words place by place.
func plainLists[T comparable](a, b []T, compare func(a, b T) int) int {
	for i := 0; ; i++ {
		switch {
		case i == len(a) && i == len(b):
			return 0
		case i == len(a):
			return -1
		case i == len(b):
			return 1
		case a[i] != b[i]:
			return compare(a[i], b[i])
		}
	}
}

func plainTexts(a, b string) int {
	return plainLists([]byte(a), []byte(b), func(a, b byte) int { return sign(int(a) - int(b)) })
}

func plainTuples(a, b []string) int { return plainLists(a, b, plainTexts) }

// wantCompare asks both ways.
func wantCompare[T any](t *testing.T, name string, compare func(a, b T) int, a, b T, wanted int) {
	t.Helper()
	if got := compare(a, b); got != wanted {
		t.Errorf("%s(%q, %q) is %d; want %d", name, any(a), any(b), got, wanted)
	}
	if got := compare(b, a); got != -wanted {
		t.Errorf("%s(%q, %q) is %d; want %d", name, any(b), any(a), got, -wanted)
	}
}

// texts are all of at most two bytes out of the ends, those about 127 and a letter, and some longer ones.
func texts() []string {
	all := []string{""}
	for i := 0; len(all[i]) < 2; i++ {
		for _, b := range []byte{0, 'a', 'b', 127, 128, 254, 255} {
			all = append(all, all[i]+string([]byte{b}))
		}
	}
	long := strings.Repeat("a", 1024)
	return append(all, "é", "z", "日本", "aaa", long, long[1:], long[1:]+"\xff", long[1:]+"\x80")
}

// tuples are all of at most three texts out of a few.
func tuples() [][]string {
	all := [][]string{nil}
	for i := 0; len(all[i]) < 3; i++ {
		for _, text := range []string{"", "a", "aa", "b", "\x80"} {
			all = append(all, append(slices.Clone(all[i]), text))
		}
	}
	return append(all, []string{}, make([]string, 16), make([]string, 17), append(make([]string, 16), "a"))
}

func TestTextsByRows(t *testing.T) {
	rows := []struct {
		a, b string
		want int
	}{
		{"a", "b", -1},
		{"a", "aa", -1},
		{"", "", 0},
		{"a", "a", 0},
		{"", "\x00", -1},
		{"", "a", -1},
		{"ab", "b", -1},
		{"zz", "\x80", -1},
		{"\x7f", "\x80", -1},
		{"\x80", "\xff", -1},
		{"z", "é", -1},
		{"\xff", "\xff\x00", -1},
		{"a\xff", "b", -1},
		{"a\xff", "a\xff", 0},
		{"a\x00b", "a\x00c", -1},
		{"Z", "a", -1},
		{"10", "9", -1},
	}
	for _, r := range rows {
		wantCompare(t, "Texts", Texts, r.a, r.b, r.want)
	}
}

func TestTuplesByRows(t *testing.T) {
	rows := []struct {
		a, b []string
		want int
	}{
		{[]string{"a", "b"}, []string{"a", "c"}, -1},
		{[]string{"a"}, []string{"a", ""}, -1},
		{[]string{}, []string{}, 0},
		{nil, []string{}, 0},
		{nil, nil, 0},
		{nil, []string{""}, -1},
		{[]string{"a", "a"}, []string{"b"}, -1},
		{[]string{"a", "b"}, []string{"ab"}, -1},
		{[]string{"a", "z"}, []string{"aa", "a"}, -1},
		{[]string{"a", "z", "z"}, []string{"b", "a"}, -1},
		{[]string{"", "b"}, []string{"a", ""}, -1},
		{[]string{"\x7f"}, []string{"\x80"}, -1},
		{[]string{"z"}, []string{"\xff"}, -1},
		{[]string{"a", "\xff"}, []string{"a", "\xff"}, 0},
	}
	for _, r := range rows {
		wantCompare(t, "Tuples", Tuples, r.a, r.b, r.want)
	}
}

func TestTextsAndTuplesOfManyPairs(t *testing.T) {
	for _, a := range texts() {
		for _, b := range texts() {
			wantCompare(t, "Texts", Texts, a, b, plainTexts(a, b))
		}
	}
	for _, a := range tuples() {
		for _, b := range tuples() {
			wantCompare(t, "Tuples", Tuples, a, b, plainTuples(a, b))
		}
	}
}

// isOrder checks the words of the chapter on all that is handed in.
func isOrder[T any](t *testing.T, name string, all []T, compare func(a, b T) int) {
	t.Helper()
	for _, a := range all {
		for _, b := range all {
			if sign(compare(a, b)) != -sign(compare(b, a)) {
				t.Fatalf("%s is not turned about: %q, %q", name, fmt.Sprint(a), fmt.Sprint(b))
			}
			for _, c := range all {
				if compare(a, b) <= 0 && compare(b, c) <= 0 && compare(a, c) > 0 {
					t.Fatalf("%s is no order: %q, %q, %q", name, fmt.Sprint(a), fmt.Sprint(b), fmt.Sprint(c))
				}
			}
		}
	}
}

func TestTextsAndTuplesAreOrders(t *testing.T) {
	isOrder(t, "Texts", texts(), Texts)
	isOrder(t, "Tuples", tuples(), Tuples)
}

// P5.2

func TestSortedByRows(t *testing.T) {
	rows := []struct {
		l    string
		want bool
	}{
		{"", true},
		{"5a", true},
		{"1a 1b 2a", true},
		{"2a 1a", false},
		{"1a 2a 3a 2b", false},
		{"1a 0a 1b 2a", false},
		{"1a 1b 1c", true},
		{"2b 2a", true},
	}
	for _, r := range rows {
		if got := Sorted(pairs(r.l), by); got != r.want {
			t.Errorf("Sorted(%s) is %v", r.l, got)
		}
		if !Sorted(pairs(r.l), nil) {
			t.Errorf("Sorted(%s) by the nil function is false", r.l)
		}
	}
	if !Sorted([]pair{}, by) || !Sorted(nil, by) {
		t.Error("Sorted of an empty list is false")
	}
}

func TestSortByRows(t *testing.T) {
	rows := []struct{ l, want string }{
		{"2a 1a 2b 1b", "1a 1b 2a 2b"},
		{"", ""},
		{"5a", "5a"},
		{"1b 1a", "1b 1a"},
		{"3a 2a 1a", "1a 2a 3a"},
		{"1a 1a 0a 1a", "0a 1a 1a 1a"},
		{"1z 0z 1y 0y 1x 0x", "0z 0y 0x 1z 1y 1x"},
	}
	for _, r := range rows {
		want(t, "Sort("+r.l+")", Sort(pairs(r.l), by), r.want)
		want(t, "Sort("+r.l+") by the nil function", Sort(pairs(r.l), nil), r.l)
	}
	want(t, "Sort of an empty list", Sort([]pair{}, by), "")
	if got := Sort([]int{3, 1, 2}, nil); !slices.Equal(got, []int{3, 1, 2}) {
		t.Errorf("Sort(3 1 2) by the nil function is %v", got)
	}
}

func TestSortAndSortedByAllOrders(t *testing.T) {
	for _, o := range orders {
		for _, l := range sample() {
			want(t, "Sort("+say(l)+") "+o.name, Sort(l, o.given), say(plainSort(l, o.meant)))
			if got := Sorted(l, o.given); got != plainSorted(l, o.meant) {
				t.Errorf("Sorted(%s) %s is %v", say(l), o.name, got)
			}
			if !Sorted(Sort(l, o.given), o.given) {
				t.Errorf("Sort(%s) %s does not rise", say(l), o.name)
			}
		}
	}
}

func TestSortOfTextsAndTuples(t *testing.T) {
	if got := Sort([]string{"b", "\xff", "", "aa", "a", "é", "a"}, Texts); !slices.Equal(got, []string{"", "a", "a", "aa", "b", "é", "\xff"}) {
		t.Errorf("Sort by Texts is %q", got)
	}
	got := Sort([][]string{{"b"}, {"a", ""}, {"a"}, {}, {"a", "\x80"}, {"a", "z"}}, Tuples)
	if fmt.Sprintf("%q", got) != `[[] ["a"] ["a" ""] ["a" "z"] ["a" "\x80"] ["b"]]` {
		t.Errorf("Sort by Tuples is %q", got)
	}
}

// P5.3

func TestSetByRows(t *testing.T) {
	rows := []struct{ l, want, byNil string }{
		{"2a 1a 2b 1b", "1a 2a", "2a"},
		{"", "", ""},
		{"5a", "5a", "5a"},
		{"1b 1a", "1b", "1b"},
		{"3a 2a 1a", "1a 2a 3a", "3a"},
		{"2c 1a 2a 3z 2b 3a", "1a 2c 3z", "2c"},
	}
	for _, r := range rows {
		want(t, "Set("+r.l+")", Set(pairs(r.l), by), r.want)
		want(t, "Set("+r.l+") by the nil function", Set(pairs(r.l), nil), r.byNil)
	}
	want(t, "Set of an empty list", Set([]pair{}, by), "")
}

func TestSetByAllOrders(t *testing.T) {
	for _, o := range orders {
		for _, l := range sample() {
			got := Set(l, o.given)
			want(t, "Set("+say(l)+") "+o.name, got, say(plainSet(l, o.meant)))
			if !plainIsSet(got, o.meant) {
				t.Errorf("Set(%s) %s is no set: %s", say(l), o.name, say(got))
			}
		}
	}
}

// P5.4

func TestFindByRows(t *testing.T) {
	rows := []struct {
		l     []int
		x     int
		place int
		found bool
	}{
		{[]int{1, 3, 3, 5}, 3, 1, true},
		{[]int{1, 3}, 2, 1, false},
		{[]int{1}, 9, 1, false},
		{nil, 3, 0, false},
		{[]int{}, 3, 0, false},
		{[]int{1}, 1, 0, true},
		{[]int{1}, 0, 0, false},
		{[]int{1, 3, 3, 5}, 0, 0, false},
		{[]int{1, 3, 3, 5}, 1, 0, true},
		{[]int{1, 3, 3, 5}, 4, 3, false},
		{[]int{1, 3, 3, 5}, 5, 3, true},
		{[]int{1, 3, 3, 5}, 6, 4, false},
		{[]int{2, 2, 2, 2, 2}, 2, 0, true},
		{[]int{2, 2, 2, 2, 2}, 3, 5, false},
		{[]int{2, 2, 2, 2, 2}, 1, 0, false},
	}
	for _, r := range rows {
		if place, found := Find(r.l, r.x, cmp.Compare[int]); place != r.place || found != r.found {
			t.Errorf("Find(%v, %d) is %d, %v; want %d, %v", r.l, r.x, place, found, r.place, r.found)
		}
		if place, found := Find(r.l, r.x, nil); place != 0 || found != (len(r.l) > 0) {
			t.Errorf("Find(%v, %d) by the nil function is %d, %v", r.l, r.x, place, found)
		}
	}
}

func TestFindByAllOrders(t *testing.T) {
	for _, o := range orders {
		for _, l := range sample() {
			l = plainSort(l, o.meant)
			for n := -1; n <= 3; n++ {
				x := pair{n, "a"}
				place := 0
				for _, y := range l {
					if o.meant(y, x) < 0 {
						place++
					}
				}
				found := len(plainWith([]pair{x}, l, o.meant, true)) > 0
				if p, ok := Find(l, x, o.given); p != place || ok != found {
					t.Errorf("Find(%s, %v) %s is %d, %v; want %d, %v", say(l), x, o.name, p, ok, place, found)
				}
			}
		}
	}
}

// TestFindHalves: each question but the last one halves what is left.
func TestFindHalves(t *testing.T) {
	l := make([]int, 1<<20)
	for i := range l {
		l[i] = 2 * i
	}
	for _, x := range []int{-1, 0, 1, 999999, 1 << 20, 1<<21 - 2, 1 << 21} {
		asked := 0
		place, found := Find(l, x, func(a, b int) int {
			asked++
			return cmp.Compare(a, b)
		})
		if asked > 22 {
			t.Errorf("Find of %d asks %d times", x, asked)
		}
		if place != min(max(0, (x+1)/2), len(l)) || found != (x >= 0 && x < 1<<21 && x%2 == 0) {
			t.Errorf("Find of %d is %d, %v", x, place, found)
		}
	}
}

// P5.5

func split(text string) [][]pair {
	var l [][]pair
	for part := range strings.SplitSeq(text, "|") {
		l = append(l, pairs(part))
	}
	return l
}

func TestMergeByRows(t *testing.T) {
	rows := []struct{ l, want string }{
		{"1a 3a | 1b 2b | | 0c", "0c 1a 1b 2b 3a"},
		{"", ""},
		{"| | |", ""},
		{"1a 1b 2a", "1a 1b 2a"},
		{"| 1a |", "1a"},
		{"1a 2a | 3b 4b", "1a 2a 3b 4b"},
		{"3b 4b | 1a 2a", "1a 2a 3b 4b"},
		{"1a 1b 1c | 1d 1e", "1a 1b 1c 1d 1e"},
		{"1d 1e | 1a 1b 1c | 1f", "1d 1e 1a 1b 1c 1f"},
		{"0a 2a 2b | 0b 1b 2c | 0c 2d", "0a 0b 0c 1b 2a 2b 2c 2d"},
		{"1a | 1a | 1a", "1a 1a 1a"},
	}
	for _, r := range rows {
		want(t, "Merge("+r.l+")", Merge(by, split(r.l)...), r.want)
		want(t, "Merge("+r.l+") by the nil function", Merge(nil, split(r.l)...), say(slices.Concat(split(r.l)...)))
	}
	want(t, "Merge of no list", Merge(by), "")
	want(t, "Merge of no list by the nil function", Merge[pair](nil), "")
	want(t, "Merge of empty lists", Merge(by, nil, []pair{}, nil), "")
}

// TestMergeByAllOrders: every list is cut in three in all ways, and the parts are sorted ahead of being merged.
func TestMergeByAllOrders(t *testing.T) {
	for _, o := range orders {
		for _, l := range lists(5) {
			for i := range len(l) + 1 {
				for j := i; j <= len(l); j++ {
					parts := [][]pair{plainSort(l[:i], o.meant), plainSort(l[i:j], o.meant), plainSort(l[j:], o.meant)}
					want(t, fmt.Sprint("Merge", parts, " ", o.name), Merge(o.given, parts...), say(plainSort(slices.Concat(parts...), o.meant)))
				}
			}
		}
	}
}

func TestMergeOfManyLists(t *testing.T) {
	for _, o := range orders {
		for _, l := range scattered() {
			for _, size := range []int{1, 2, 7, 50} {
				var parts [][]pair
				for part := range slices.Chunk(l, size) {
					parts = append(parts, plainSort(part, o.meant), nil)
				}
				want(t, fmt.Sprint("Merge by ", size, " ", o.name), Merge(o.given, parts...), say(plainSort(l, o.meant)))
			}
		}
	}
}

// P5.6

func TestSetsByRows(t *testing.T) {
	rows := []struct{ a, b, union, meet, minus string }{
		{"1a 3a", "1b 2b", "1a 2b 3a", "1a", "3a"},
		{"", "", "", "", ""},
		{"1a 2a", "", "1a 2a", "", "1a 2a"},
		{"", "1b 2b", "1b 2b", "", ""},
		{"1a 2a", "1b 2b", "1a 2a", "1a 2a", ""},
		{"1a 2a", "3b 4b", "1a 2a 3b 4b", "", "1a 2a"},
		{"3a 4a", "1b 2b", "1b 2b 3a 4a", "", "3a 4a"},
		{"1a", "1b", "1a", "1a", ""},
		{"2a", "1b 2b 3b", "1b 2a 3b", "2a", ""},
		{"1a 2a 3a", "2b", "1a 2a 3a", "2a", "1a 3a"},
		{"0a 2a 4a 6a", "1b 2b 3b 6b 7b", "0a 1b 2a 3b 4a 6a 7b", "2a 6a", "0a 4a"},
	}
	for _, r := range rows {
		a, b, in := pairs(r.a), pairs(r.b), "("+r.a+", "+r.b+")"
		want(t, "Union"+in, Union(a, b, by), r.union)
		want(t, "Meet"+in, Meet(a, b, by), r.meet)
		want(t, "Minus"+in, Minus(a, b, by), r.minus)
	}
	a, b, none := pairs("1a"), pairs("2b"), []pair{}
	want(t, "Union by the nil function", Union(a, b, nil), "1a")
	want(t, "Meet by the nil function", Meet(a, b, nil), "1a")
	want(t, "Minus by the nil function", Minus(a, b, nil), "")
	want(t, "Union with nothing by the nil function", Union(none, b, nil), "2b")
	want(t, "Meet with nothing by the nil function", Meet(a, none, nil), "")
	want(t, "Minus of nothing by the nil function", Minus(a, none, nil), "1a")
}

// subsets are all sets of the numbers 0 to 4, by an order, with a mark.
func subsets(mark string, compare func(a, b pair) int) [][]pair {
	var all [][]pair
	for bits := range 32 {
		var l []pair
		for n := range 5 {
			if bits>>n&1 == 1 {
				l = append(l, pair{n, mark})
			}
		}
		all = append(all, plainSet(l, compare))
	}
	return all
}

func TestSetsByAllOrders(t *testing.T) {
	for _, o := range orders {
		for _, a := range subsets("a", o.meant) {
			for _, b := range subsets("b", o.meant) {
				in := fmt.Sprint("(", say(a), ", ", say(b), ") ", o.name)
				want(t, "Union"+in, Union(a, b, o.given), say(plainUnion(a, b, o.meant)))
				want(t, "Meet"+in, Meet(a, b, o.given), say(plainWith(a, b, o.meant, true)))
				want(t, "Minus"+in, Minus(a, b, o.given), say(plainWith(a, b, o.meant, false)))
			}
		}
	}
}

// P5.8

// calls are all that take lists and answer one.
var calls = []struct {
	name string
	ask  func(a, b []pair, compare func(a, b pair) int) []pair
}{
	{"Sort", func(a, _ []pair, compare func(a, b pair) int) []pair { return Sort(a, compare) }},
	{"Set", func(a, _ []pair, compare func(a, b pair) int) []pair { return Set(a, compare) }},
	{"Merge of one", func(a, _ []pair, compare func(a, b pair) int) []pair { return Merge(compare, a) }},
	{"Merge", func(a, b []pair, compare func(a, b pair) int) []pair { return Merge(compare, a, b) }},
	{"Merge of a list twice", func(a, b []pair, compare func(a, b pair) int) []pair { return Merge(compare, a, b, a) }},
	{"Union", Union[pair]},
	{"Meet", Meet[pair]},
	{"Minus", Minus[pair]},
}

// TestListsThatDoNotRise: nothing is promised but that the calls end, and that what they were handed stays.
func TestListsThatDoNotRise(t *testing.T) {
	for _, o := range orders {
		for _, a := range lists(4) {
			for _, b := range lists(3) {
				saidA, saidB := say(a), say(b)
				for _, c := range calls {
					c.ask(a, b, o.given)
				}
				for _, x := range b {
					Find(a, x, o.given)
				}
				if say(a) != saidA || say(b) != saidB {
					t.Fatalf("of %s and %s a call made %s and %s", saidA, saidB, say(a), say(b))
				}
			}
		}
	}
	down := make([]int, 1000)
	for i := range down {
		down[i] = -i % 37
	}
	for x := -40; x <= 40; x++ {
		Find(down, x, cmp.Compare[int])
	}
	Merge(cmp.Compare[int], down, down, down)
	Union(down, down, cmp.Compare[int])
	Meet(down, down, cmp.Compare[int])
	Minus(down, down, cmp.Compare[int])
}

var spare = pair{99, "spare"}

// roomy is a list with room behind it, filled, so that who writes or reads there is seen.
func roomy(l []pair) []pair { return append(slices.Clone(l), spare, spare, spare)[:len(l)] }

func whole(l []pair) string { return say(l[:cap(l)]) }

// spoil overwrites a list and all the room behind it.
func spoil(l []pair) {
	l = l[:cap(l)]
	for i := range l {
		l[i] = pair{-1, "spoilt"}
	}
}

// TestMemory: what is handed in stays, spare room included; an answer shares nothing with it or with another answer.
func TestMemory(t *testing.T) {
	inputs := [][2]string{{"", ""}, {"1a", ""}, {"", "1b"}, {"1a 3a", "1b 2b"}, {"1a 2a", "3b 4b"}, {"3a", "1b 2b"}, {"1a 2a", "1b 2b"}}
	for _, in := range inputs {
		for _, c := range calls {
			a, b := roomy(pairs(in[0])), roomy(pairs(in[1]))
			wasA, wasB := whole(a), whole(b)
			one, two := c.ask(a, b, by), c.ask(a, b, by)
			wanted := say(two)
			spoil(one)
			if whole(a) != wasA || whole(b) != wasB {
				t.Errorf("%s of %v: what was handed in is %s and %s", c.name, in, whole(a), whole(b))
			}
			want(t, c.name+" with another answer overwritten", two, wanted)
			spoil(a)
			spoil(b)
			want(t, c.name+" with its arguments overwritten", two, wanted)
		}
	}
}

// TestMergeLeavesTheListOfLists: a caller's own list of lists is handed in as it is.
func TestMergeLeavesTheListOfLists(t *testing.T) {
	l := make([][]pair, 3, 5)
	l[0], l[2] = pairs("1a 2a"), pairs("0b 3b")
	l[:5][3] = pairs("7z")
	want(t, "Merge", Merge(by, l...), "0b 1a 2a 3b")
	if say(l[0]) != "1a 2a" || l[1] != nil || say(l[2]) != "0b 3b" || say(l[:5][3]) != "7z" || l[:5][4] != nil {
		t.Errorf("Merge made %v of the lists", l[:5])
	}
}

// TestElementsAsTheyAre: what an element points to is the same afterwards.
func TestElementsAsTheyAre(t *testing.T) {
	one, two, other := &pair{1, "a"}, &pair{2, "a"}, &pair{1, "b"}
	byPointed := func(a, b *pair) int { return by(*a, *b) }
	rows := []struct {
		name        string
		got, wanted []*pair
	}{
		{"Sort", Sort([]*pair{two, one, other}, byPointed), []*pair{one, other, two}},
		{"Set", Set([]*pair{two, one, other}, byPointed), []*pair{one, two}},
		{"Merge", Merge(byPointed, []*pair{other}, []*pair{one, two}), []*pair{other, one, two}},
		{"Union", Union([]*pair{other}, []*pair{one, two}, byPointed), []*pair{other, two}},
		{"Meet", Meet([]*pair{one, two}, []*pair{other}, byPointed), []*pair{one}},
		{"Minus", Minus([]*pair{one, two}, []*pair{other}, byPointed), []*pair{two}},
	}
	for _, r := range rows {
		if !slices.Equal(r.got, r.wanted) {
			t.Errorf("%s does not hand on its elements as they are", r.name)
		}
	}
	l := [][]string{{"b"}, {"a"}}
	sorted := Sort(l, Tuples)
	l[0][0] = "c"
	if sorted[1][0] != "c" {
		t.Error("Sort copies what its elements point to")
	}
}

// P5.9

func TestWhatFollows(t *testing.T) {
	for _, o := range orders {
		for _, l := range sample() {
			sorted := Sort(l, o.given)
			want(t, "Sort of a Sort "+o.name, Sort(sorted, o.given), say(sorted))
			var ones [][]pair
			for _, x := range l {
				ones = append(ones, []pair{x})
			}
			want(t, "Merge of lists of one element "+o.name, Merge(o.given, ones...), say(sorted))
			set := Set(l, o.given)
			want(t, "Set of a Set "+o.name, Set(set, o.given), say(set))
			want(t, "Minus(a, a) "+o.name, Minus(set, set, o.given), "")
			want(t, "Meet(a, a) "+o.name, Meet(set, set, o.given), say(set))
			want(t, "Union(a, a) "+o.name, Union(set, set, o.given), say(set))
		}
	}
}

func TestLawsOfSets(t *testing.T) {
	for _, o := range orders {
		for _, a := range subsets("a", o.meant) {
			for _, b := range subsets("b", o.meant) {
				lawsOfSets(t, a, b, o.given)
			}
		}
	}
}

// lawsOfSets holds of any two sets; whose elements are kept is told by their marks.
func lawsOfSets(t *testing.T, a, b []pair, compare func(a, b pair) int) {
	t.Helper()
	union, meet, minus := Union(a, b, compare), Meet(a, b, compare), Minus(a, b, compare)
	want(t, "Union of Minus and Meet", Union(minus, meet, compare), say(a))
	want(t, "Meet of Minus and Meet", Meet(minus, meet, compare), "")
	want(t, "Union by way of Minus", Union(a, Minus(b, a, compare), compare), say(union))
	want(t, "Merge by way of Minus", Merge(compare, a, Minus(b, a, compare)), say(union))
	want(t, "Union by way of Set", Set(slices.Concat(a, b), compare), say(union))
	want(t, "Meet by way of Minus", Minus(a, minus, compare), say(meet))
	want(t, "Minus of Union", Minus(union, b, compare), say(minus))
	want(t, "Meet with Union", Meet(a, union, compare), say(a))
	if len(union)+len(meet) != len(a)+len(b) {
		t.Errorf("Union %s and Meet %s have not as many as %s and %s", say(union), say(meet), say(a), say(b))
	}
}

// FuzzLists: each byte is a number, of which many are alike, marked by its place.
func FuzzLists(f *testing.F) {
	f.Add([]byte{}, 0, uint8(0))
	f.Add([]byte{2, 1, 2, 1}, 2, uint8(1))
	f.Add([]byte("a list of some length, with many a letter twice"), 20, uint8(5))
	f.Fuzz(func(t *testing.T, data []byte, cut int, which uint8) {
		o := orders[int(which)%len(orders)]
		l := make([]pair, len(data))
		for i, n := range data {
			l[i] = pair{int(n), fmt.Sprint("-", i)}
		}
		cut = min(max(0, cut), len(l))
		a, b := l[:cut], l[cut:]
		want(t, "Sort", Sort(l, o.given), say(plainSort(l, o.meant)))
		want(t, "Set", Set(l, o.given), say(plainSet(l, o.meant)))
		want(t, "Merge", Merge(o.given, Sort(a, o.given), Sort(b, o.given)), say(plainSort(l, o.meant)))
		lawsOfSets(t, Set(a, o.given), Set(b, o.given), o.given)
	})
}
