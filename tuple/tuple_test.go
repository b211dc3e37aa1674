package tuple

import (
	"encoding/binary"
	"fmt"
	"hash/fnv"
	"math"
	"math/rand"
	"slices"
	"testing"

	"inkling/api"
)

// Types of one's own, one of each kind.
type (
	place  int
	step   int8
	depth  int16
	height int32
	weight int64
	letter uint8
	port   uint16
	mark   uint32
)

// everyKind runs a check on each type that Number allows and on a type of one's own of each kind, with the least and the greatest number that it has.
func everyKind(t *testing.T, c checks) {
	c.int(t, math.MinInt, math.MaxInt)
	c.int8(t, math.MinInt8, math.MaxInt8)
	c.int16(t, math.MinInt16, math.MaxInt16)
	c.int32(t, math.MinInt32, math.MaxInt32)
	c.int64(t, math.MinInt64, math.MaxInt64)
	c.uint8(t, 0, math.MaxUint8)
	c.uint16(t, 0, math.MaxUint16)
	c.uint32(t, 0, math.MaxUint32)
	c.place(t, math.MinInt, math.MaxInt)
	c.step(t, math.MinInt8, math.MaxInt8)
	c.depth(t, math.MinInt16, math.MaxInt16)
	c.height(t, math.MinInt32, math.MaxInt32)
	c.weight(t, math.MinInt64, math.MaxInt64)
	c.letter(t, 0, math.MaxUint8)
	c.port(t, 0, math.MaxUint16)
	c.mark(t, 0, math.MaxUint32)
}

// checks is one generic check at all the types (a generic function can't be handed on as such).
type checks struct {
	int    func(t *testing.T, least, greatest int)
	int8   func(t *testing.T, least, greatest int8)
	int16  func(t *testing.T, least, greatest int16)
	int32  func(t *testing.T, least, greatest int32)
	int64  func(t *testing.T, least, greatest int64)
	uint8  func(t *testing.T, least, greatest uint8)
	uint16 func(t *testing.T, least, greatest uint16)
	uint32 func(t *testing.T, least, greatest uint32)
	place  func(t *testing.T, least, greatest place)
	step   func(t *testing.T, least, greatest step)
	depth  func(t *testing.T, least, greatest depth)
	height func(t *testing.T, least, greatest height)
	weight func(t *testing.T, least, greatest weight)
	letter func(t *testing.T, least, greatest letter)
	port   func(t *testing.T, least, greatest port)
	mark   func(t *testing.T, least, greatest mark)
}

// numbers are some of every type: the ends, their neighbours, the middle.
func numbers[T Number](least, greatest T) []T {
	return []T{least, least + 1, greatest/2 + least/2, 0, 1, greatest - 1, greatest}
}

// powers are numbers that differ in high bits alone, so that a hash that leaves out a byte is seen.
func powers() []int64 {
	var l []int64
	for shift := range 63 {
		l = append(l, 1<<shift, -1<<shift)
	}
	return l
}

// small are all tuples of at most three numbers out of -1, 0 and 1.
func small() [][]int {
	all := [][]int{nil}
	for i := 0; len(all[i]) < 3; i++ {
		for n := -1; n <= 1; n++ {
			all = append(all, append(slices.Clone(all[i]), n))
		}
	}
	return all
}

// long are tuples of lengths about MaxArity and far above it, many of which begin with one another or differ in one place; the same each time.
func long() [][]int {
	r := rand.New(rand.NewSource(2))
	var all [][]int
	for _, n := range []int{14, 15, 16, 17, 18, 40} {
		all = append(all, make([]int, n))
		for range 8 {
			t := make([]int, n)
			t[r.Intn(n)] = r.Intn(3) - 1
			all = append(all, t)
		}
		last := make([]int, n)
		last[n-1] = 1
		all = append(all, last, slices.Clone(last))
	}
	return all
}

func sample() [][]int { return append(small(), long()...) }

// sets are sets of columns: few, and all of some.
func sets() []api.Columns {
	return []api.Columns{0, 1, 2, 3, 4, 5, 6, 7, 8, 1 << 13, 1 << 14, 1 << 15, 1<<15 | 1, 65534, 65535}
}

const spare = 99

// roomy is a tuple with room behind it, filled, so that whoever writes or reads there is seen.
func roomy(t []int) []int {
	r := append(slices.Clone(t), spare, spare, spare)
	return r[:len(t)]
}

// untouched checks that a roomy tuple and the room behind it are as they were.
func untouched(t *testing.T, call string, r, was []int) {
	t.Helper()
	if !slices.Equal(r, was) {
		t.Errorf("%s made %v of %v", call, was, r)
	}
	for _, n := range r[len(r) : len(was)+3] {
		if n != spare {
			t.Errorf("%s wrote into the room behind %v", call, was)
		}
	}
}

// spoil overwrites a list and all the room behind it.
func spoil(l []int) {
	l = l[:cap(l)]
	for i := range l {
		l[i] = -spare
	}
}

// apart asks twice and checks that an answer is as it should, shares nothing with the other, and that nothing of what was handed in shares with either.
func apart(t *testing.T, call string, want []int, ask func() []int, in ...[]int) {
	t.Helper()
	was := make([][]int, len(in))
	for i, l := range in {
		was[i] = slices.Clone(l)
	}
	one, two := ask(), ask()
	spoil(one)
	if !slices.Equal(two, want) {
		t.Errorf("%s is %v; want %v, whatever is done with another answer", call, two, want)
	}
	for i, l := range in {
		untouched(t, call, l, was[i])
	}
	for _, l := range in {
		spoil(l)
	}
	if !slices.Equal(two, want) {
		t.Errorf("%s is %v; want %v, whatever is done with what was handed in", call, two, want)
	}
}

// P2.1

// plainCompare says the promise's words one by one.
func plainCompare(a, b []int) int {
	for i := 0; ; i++ {
		switch {
		case i == len(a) && i == len(b):
			return 0
		case i == len(a):
			return -1
		case i == len(b):
			return 1
		case a[i] < b[i]:
			return -1
		case a[i] > b[i]:
			return 1
		}
	}
}

func TestCompareAndEqual(t *testing.T) {
	noughts := make([]int, 18)
	rows := []struct {
		a, b []int
		want int
	}{
		{[]int{1, 2}, []int{1, 3}, -1},
		{[]int{1}, []int{1, 0}, -1},
		{nil, nil, 0},
		{nil, []int{}, 0},
		{[]int{}, []int{}, 0},
		{[]int{-1}, []int{1}, -1},
		{nil, []int{0}, -1},
		{nil, []int{-1}, -1},
		{nil, []int{math.MinInt}, -1},
		{[]int{1}, []int{1, -1}, -1},
		{[]int{1, 9, 9}, []int{2}, -1},
		{[]int{1, 9}, []int{2, 1}, -1},
		{[]int{2, 2, 9}, []int{2, 3, 1}, -1},
		{[]int{7, 8, 9}, []int{7, 8, 9}, 0},
		{[]int{math.MinInt}, []int{math.MaxInt}, -1},
		{[]int{math.MinInt}, []int{0}, -1},
		{[]int{-2}, []int{-1}, -1},
		{noughts[:15], noughts[:16], -1},
		{noughts[:16], noughts[:17], -1},
		{noughts[:17], noughts[:18], -1},
		{noughts[:16], make([]int, 16), 0},
		{noughts[:17], make([]int, 17), 0},
		{noughts[:16], append(make([]int, 15), 1), -1},
		{noughts[:17], append(make([]int, 16), 1), -1},
		{noughts[:18], append(make([]int, 16), 1), -1},
		{append(make([]int, 17), -1), noughts[:18], -1},
	}
	for _, r := range rows {
		if got := Compare(r.a, r.b); got != r.want {
			t.Errorf("Compare(%v, %v) is %d; want %d", r.a, r.b, got, r.want)
		}
		if got := Compare(r.b, r.a); got != -r.want {
			t.Errorf("Compare(%v, %v) is %d; want %d", r.b, r.a, got, -r.want)
		}
		if Equal(r.a, r.b) != (r.want == 0) || Equal(r.b, r.a) != (r.want == 0) {
			t.Errorf("Equal(%v, %v) is not %v", r.a, r.b, r.want == 0)
		}
	}
}

func TestCompareAndEqualOfManyPairs(t *testing.T) {
	for _, a := range sample() {
		for _, b := range sample() {
			want := plainCompare(a, b)
			if got := Compare(a, b); got != want {
				t.Errorf("Compare(%v, %v) is %d; want %d", a, b, got, want)
			}
			if got := Equal(a, b); got != (want == 0) {
				t.Errorf("Equal(%v, %v) is %v", a, b, got)
			}
		}
	}
}

// TestEqualSeesEveryPlace: at all lengths up to above MaxArity, a tuple that differs in one place alone is not Equal.
func TestEqualSeesEveryPlace(t *testing.T) {
	for n := range 20 {
		a := make([]int, n)
		if !Equal(a, make([]int, n)) {
			t.Errorf("%d noughts are not Equal to as many", n)
		}
		for i := range n {
			b := make([]int, n)
			b[i] = 1
			if Equal(a, b) || Equal(b, a) || Compare(a, b) != -1 || Compare(b, a) != 1 {
				t.Errorf("of %d numbers, place %d is not seen", n, i)
			}
		}
	}
}

func compareKind[T Number](t *testing.T, least, greatest T) {
	rising := slices.Compact(slices.Sorted(slices.Values(numbers(least, greatest))))
	for i, m := range rising {
		for j, n := range rising {
			want := 0
			if i < j {
				want = -1
			}
			if i > j {
				want = 1
			}
			if got := Compare([]T{5, m}, []T{5, n}); got != want {
				t.Errorf("%T: Compare(5 %d, 5 %d) is %d; want %d", m, m, n, got, want)
			}
			if got := Equal([]T{5, m}, []T{5, n}); got != (want == 0) {
				t.Errorf("%T: Equal(5 %d, 5 %d) is %v", m, m, n, got)
			}
		}
	}
}

func TestCompareAndEqualOfEveryKind(t *testing.T) {
	everyKind(t, checks{compareKind[int], compareKind[int8], compareKind[int16], compareKind[int32], compareKind[int64], compareKind[uint8], compareKind[uint16], compareKind[uint32],
		compareKind[place], compareKind[step], compareKind[depth], compareKind[height], compareKind[weight], compareKind[letter], compareKind[port], compareKind[mark]})
}

// P2.2

// plainHash is the library's hash of the same bytes.
func plainHash[T Number](l []T) uint64 {
	h := fnv.New64a()
	for _, n := range l {
		h.Write(binary.LittleEndian.AppendUint64(nil, uint64(int64(n))))
	}
	return h.Sum64()
}

func TestHashExamples(t *testing.T) {
	rows := []struct {
		l    []int
		want uint64
	}{
		{nil, 14695981039346656037},
		{[]int{}, 14695981039346656037},
		{[]int{0}, 12161962213042174405},
		{[]int{1}, 9929646806074584996},
		{[]int{-1}, 10157053723145373757},
	}
	for _, r := range rows {
		if got := Hash(r.l); got != r.want {
			t.Errorf("Hash(%v) is %d; want %d", r.l, got, r.want)
		}
	}
}

func TestHashGoesByEveryByteInOrder(t *testing.T) {
	for _, l := range sample() {
		if got := Hash(l); got != plainHash(l) {
			t.Errorf("Hash(%v) is %d; want %d", l, got, plainHash(l))
		}
	}
	for _, n := range powers() {
		l := []int64{n, 3, -n}
		if got := Hash(l); got != plainHash(l) {
			t.Errorf("Hash(%v) is %d; want %d", l, got, plainHash(l))
		}
	}
	if Hash([]int{1, 2}) == Hash([]int{2, 1}) || Hash([]int{0}) == Hash([]int{0, 0}) || Hash([]int{256}) == Hash([]int{1}) {
		t.Error("Hash does not tell places apart")
	}
}

// hashKind: a number hashes as the same number of 64 bits does, whatever its type.
func hashKind[T Number](t *testing.T, least, greatest T) {
	var wide []int64
	all := numbers(least, greatest)
	for _, n := range all {
		wide = append(wide, int64(n))
		if got := Hash([]T{n}); got != Hash([]int64{int64(n)}) || got != plainHash([]T{n}) {
			t.Errorf("%T: Hash(%d) is %d; want %d", n, n, got, plainHash([]T{n}))
		}
	}
	if got := Hash(all); got != Hash(wide) || got != plainHash(all) {
		t.Errorf("%T: Hash(%v) is %d; want %d", least, all, got, plainHash(all))
	}
	if got := Hash[T](nil); got != 14695981039346656037 {
		t.Errorf("%T: Hash of nothing is %d", least, got)
	}
}

func TestHashOfEveryKind(t *testing.T) {
	everyKind(t, checks{hashKind[int], hashKind[int8], hashKind[int16], hashKind[int32], hashKind[int64], hashKind[uint8], hashKind[uint16], hashKind[uint32],
		hashKind[place], hashKind[step], hashKind[depth], hashKind[height], hashKind[weight], hashKind[letter], hashKind[port], hashKind[mark]})
	if Hash([]uint8{255}) == Hash([]int8{-1}) || Hash([]uint32{math.MaxUint32}) == Hash([]int32{-1}) || Hash([]uint16{65535}) == Hash([]int16{-1}) {
		t.Error("a greatest number without a sign hashes as -1 does")
	}
}

// P2.3

func TestOf(t *testing.T) {
	rows := []struct {
		columns []int
		want    api.Columns
	}{
		{nil, 0},
		{[]int{}, 0},
		{[]int{0, 3, 3}, 9},
		{[]int{3, 0, 3}, 9},
		{[]int{3, 3, 0, 0, 3}, 9},
		{[]int{0}, 1},
		{[]int{15}, 32768},
		{[]int{15, 0}, 32769},
		{[]int{15, 14, 13, 12, 11, 10, 9, 8, 7, 6, 5, 4, 3, 2, 1, 0}, 65535},
		{make([]int, 1000), 1},
	}
	for _, r := range rows {
		in := roomy(r.columns)
		if c, e := Of(in...); c != r.want || e != api.OK {
			t.Errorf("Of(%v) is %d, %v; want %d, OK", r.columns, c, e, r.want)
		}
		untouched(t, "Of", in, r.columns)
	}
}

func TestOfWrongColumns(t *testing.T) {
	for _, n := range []int{-1, 16, 17, -16, 31, 32, 63, 64, 1 << 16, 1<<16 + 1, -1 << 16, 1 << 32, 1<<32 + 1, math.MinInt, math.MaxInt} {
		for _, columns := range [][]int{{n}, {n, 2}, {2, n}, {2, n, 3}, {n, n}, {15, 0, n}} {
			in := roomy(columns)
			if c, e := Of(in...); c != 0 || e != api.ErrArg {
				t.Errorf("Of(%v) is %d, %v; want 0, ErrArg", columns, c, e)
			}
			untouched(t, "Of", in, columns)
		}
	}
}

func TestListExamples(t *testing.T) {
	rows := []struct {
		c    api.Columns
		want []int
	}{
		{9, []int{0, 3}},
		{0, nil},
		{32768, []int{15}},
		{1, []int{0}},
		{65535, []int{0, 1, 2, 3, 4, 5, 6, 7, 8, 9, 10, 11, 12, 13, 14, 15}},
	}
	for _, r := range rows {
		if got := List(r.c); !slices.Equal(got, r.want) {
			t.Errorf("List(%d) is %v; want %v", r.c, got, r.want)
		}
		apart(t, "List", r.want, func() []int { return List(r.c) })
	}
}

func TestOfAndListOfEverySet(t *testing.T) {
	for n := range 1 << 16 {
		c := api.Columns(n)
		var want []int
		for i := range 16 {
			if n/(1<<i)%2 == 1 {
				want = append(want, i)
			}
		}
		got := List(c)
		if !slices.Equal(got, want) {
			t.Fatalf("List(%d) is %v; want %v", c, got, want)
		}
		slices.Reverse(got)
		if back, e := Of(append(got, want...)...); back != c || e != api.OK {
			t.Fatalf("Of(%v) is %d, %v; want %d, OK", got, back, e, c)
		}
	}
}

// P2.4

func count(n int) []int {
	l := make([]int, n)
	for i := range l {
		l[i] = 100 + i
	}
	return l
}

func TestCut(t *testing.T) {
	rows := []struct {
		l    []int
		c    api.Columns
		want []int
	}{
		{[]int{5, 6, 7}, 5, []int{5, 7}},
		{[]int{5, 6}, 0, nil},
		{nil, 0, nil},
		{[]int{}, 0, nil},
		{[]int{5}, 1, []int{5}},
		{[]int{5, 6}, 2, []int{6}},
		{[]int{5, 6}, 3, []int{5, 6}},
		{[]int{7, 6, 5}, 7, []int{7, 6, 5}},
		{[]int{5, 5, 5}, 6, []int{5, 5}},
		{count(16), 32768, []int{115}},
		{count(16), 65535, count(16)},
		{count(15), 1 << 14, []int{114}},
		{count(20), 32769, []int{100, 115}},
		{count(20), 65535, count(16)},
	}
	for _, r := range rows {
		in := roomy(r.l)
		if got, e := Cut(in, r.c); !slices.Equal(got, r.want) || e != api.OK {
			t.Errorf("Cut(%v, %d) is %v, %v; want %v, OK", r.l, r.c, got, e, r.want)
		}
		apart(t, "Cut", r.want, func() []int { got, _ := Cut(in, r.c); return got }, in)
	}
}

func TestCutWrongColumns(t *testing.T) {
	rows := []struct {
		l []int
		c api.Columns
	}{
		{[]int{5, 6}, 4},
		{[]int{5, 6}, 7},
		{[]int{5, 6}, 8},
		{[]int{5, 6}, 32768},
		{nil, 1},
		{[]int{}, 65535},
		{[]int{5}, 2},
		{[]int{5}, 3},
		{count(15), 32768},
		{count(15), 65535},
	}
	for _, r := range rows {
		in := roomy(r.l)
		if got, e := Cut(in, r.c); got != nil || e != api.ErrArg {
			t.Errorf("Cut(%v, %d) is %v, %v; want none, ErrArg", r.l, r.c, got, e)
		}
		untouched(t, "Cut", in, r.l)
	}
}

// TestCutAtTheLength: of each column, a tuple just long enough goes, one that is shorter by one does not.
func TestCutAtTheLength(t *testing.T) {
	for column := range api.MaxArity {
		c := api.Columns(1) << column
		if got, e := Cut(count(column+1), c); !slices.Equal(got, []int{100 + column}) || e != api.OK {
			t.Errorf("Cut of %d numbers at column %d is %v, %v", column+1, column, got, e)
		}
		if got, e := Cut(count(column), c); got != nil || e != api.ErrArg {
			t.Errorf("Cut of %d numbers at column %d is %v, %v; want none, ErrArg", column, column, got, e)
		}
		enough, short := count(column+1), count(column)
		if !Agree(enough, count(column+1), c) || Agree(short, enough, c) || Agree(enough, short, c) || Agree(short, short, c) {
			t.Errorf("Agree at column %d of %d and %d numbers", column, column+1, column)
		}
	}
}

func TestAgree(t *testing.T) {
	rows := []struct {
		a, b []int
		c    api.Columns
		want bool
	}{
		{[]int{1, 2, 3}, []int{1, 9, 3}, 5, true},
		{[]int{1, 2, 3}, []int{1, 9, 3}, 7, false},
		{[]int{1, 2, 3}, []int{1, 9, 3}, 2, false},
		{[]int{1}, []int{2}, 0, true},
		{[]int{1}, []int{1, 2}, 2, false},
		{[]int{1, 2}, []int{1}, 2, false},
		{[]int{1, 2}, []int{1}, 3, false},
		{[]int{1, 2}, []int{1}, 1, true},
		{nil, nil, 0, true},
		{nil, []int{1}, 0, true},
		{nil, []int{}, 1, false},
		{nil, []int{0}, 1, false},
		{[]int{0}, nil, 1, false},
		{[]int{1}, []int{1}, 2, false},
		{[]int{9, 2}, []int{1, 2}, 3, false},
		{[]int{1, 9}, []int{1, 2}, 3, false},
		{[]int{1, 2}, []int{2, 1}, 3, false},
		{count(16), count(16), 65535, true},
		{count(20), count(16), 65535, true},
		{count(15), count(15), 65535, false},
		{append(count(16), 1), append(count(16), 2), 65535, true},
	}
	for _, r := range rows {
		a, b := roomy(r.a), roomy(r.b)
		if got := Agree(a, b, r.c); got != r.want {
			t.Errorf("Agree(%v, %v, %d) is %v", r.a, r.b, r.c, got)
		}
		untouched(t, "Agree", a, r.a)
		untouched(t, "Agree", b, r.b)
	}
}

// TestAgreeSeesJustItsColumns: tuples that differ in one column alone Agree in all sets without it, in none with it.
func TestAgreeSeesJustItsColumns(t *testing.T) {
	for column := range api.MaxArity {
		a, b := count(16), count(16)
		b[column] = -1
		for n := range 1 << 16 {
			c := api.Columns(n)
			if got, want := Agree(a, b, c), n/(1<<column)%2 == 0; got != want {
				t.Fatalf("tuples that differ in column %d: Agree in %d is %v", column, c, got)
			}
		}
	}
}

// P2.5

func TestKey(t *testing.T) {
	if k, e := Key([]int{7, 8}); k != [16]int{7, 8, 0, 0, 0, 0, 0, 0, 0, 0, 0, 0, 0, 0, 0, 0} || e != api.OK {
		t.Errorf("Key(7 8) is %v, %v", k, e)
	}
	if k, e := Key[int](nil); k != [16]int{} || e != api.OK {
		t.Errorf("Key of nothing is %v, %v", k, e)
	}
	for n := range api.MaxArity + 1 {
		in := roomy(count(n))
		k, e := Key(in)
		if !slices.Equal(k[:n], count(n)) || !slices.Equal(k[n:], make([]int, 16-n)) || e != api.OK {
			t.Errorf("Key of %d numbers is %v, %v", n, k, e)
		}
		untouched(t, "Key", in, count(n))
	}
	for _, n := range []int{17, 18, 32, 33, 1000} {
		in := roomy(count(n))
		if k, e := Key(in); k != [16]int{} || e != api.ErrLong {
			t.Errorf("Key of %d numbers is %v, %v; want noughts, ErrLong", n, k, e)
		}
		untouched(t, "Key", in, count(n))
	}
}

func TestFrom(t *testing.T) {
	k, _ := Key([]int{7, 8})
	for n, want := range [][]int{nil, {7}, {7, 8}, {7, 8, 0}} {
		if got, e := From(k, n); !slices.Equal(got, want) || e != api.OK {
			t.Errorf("From(Key(7 8), %d) is %v, %v; want %v, OK", n, got, e, want)
		}
	}
	full := [16]int(count(16))
	for n := range 17 {
		if got, e := From(full, n); !slices.Equal(got, count(16)[:n]) || e != api.OK {
			t.Errorf("From of %v and %d is %v, %v", full, n, got, e)
		}
		apart(t, "From", count(16)[:n], func() []int { got, _ := From(full, n); return got })
		if full != [16]int(count(16)) {
			t.Errorf("From changed what was handed in: %v", full)
		}
	}
	for _, n := range []int{-1, -2, 17, 18, 1 << 32, math.MinInt, math.MaxInt} {
		if got, e := From(full, n); got != nil || e != api.ErrArg {
			t.Errorf("From and %d is %v, %v; want none, ErrArg", n, got, e)
		}
	}
}

// keyKind: a number of every kind goes into a key and comes back as it was; so it does into and out of a cut.
func keyKind[T Number](t *testing.T, least, greatest T) {
	all := numbers(least, greatest)
	k, e := Key(all)
	if !slices.Equal(k[:len(all)], all) || e != api.OK {
		t.Errorf("%T: Key(%v) is %v, %v", least, all, k, e)
	}
	if back, e := From(k, len(all)); !slices.Equal(back, all) || e != api.OK {
		t.Errorf("%T: From of its Key is %v, %v; want %v", least, back, e, all)
	}
	if cut, e := Cut(all, 1|1<<6); !slices.Equal(cut, []T{least, greatest}) || e != api.OK {
		t.Errorf("%T: Cut(%v, 65) is %v, %v", least, all, cut, e)
	}
	if !Agree(all, []T{least, 9, 9, 9, 9, 9, greatest}, 65) || Agree([]T{least}, []T{greatest}, 1) {
		t.Errorf("%T: Agree does not tell %d from %d", least, least, greatest)
	}
	if _, e := Key(make([]T, 17)); e != api.ErrLong {
		t.Errorf("%T: Key of 17 numbers: %v", least, e)
	}
	if l, e := From(k, 17); l != nil || e != api.ErrArg {
		t.Errorf("%T: From of 17 numbers: %v, %v", least, l, e)
	}
	if l, ok := Least([]T{greatest}, []T{least, 1}, []T{least}, []T{1}); !slices.Equal(l, []T{least}) || !ok {
		t.Errorf("%T: Least is %v, %v; want %d", least, l, ok, least)
	}
}

func TestKeysCutsAndLeastOfEveryKind(t *testing.T) {
	everyKind(t, checks{keyKind[int], keyKind[int8], keyKind[int16], keyKind[int32], keyKind[int64], keyKind[uint8], keyKind[uint16], keyKind[uint32],
		keyKind[place], keyKind[step], keyKind[depth], keyKind[height], keyKind[weight], keyKind[letter], keyKind[port], keyKind[mark]})
}

// P2.6

func TestLeastOfNone(t *testing.T) {
	if l, ok := Least[int](); l != nil || ok {
		t.Errorf("Least() is %v, %v; want none, false", l, ok)
	}
	if l, ok := Least([][]int{}...); l != nil || ok {
		t.Errorf("Least of an empty list is %v, %v; want none, false", l, ok)
	}
}

func TestLeast(t *testing.T) {
	rows := []struct {
		l    [][]int
		want []int
	}{
		{[][]int{{2, 1}, {1, 5}, {1}}, []int{1}},
		{[][]int{{1}, {1, 5}, {2, 1}}, []int{1}},
		{[][]int{{1, 5}, {1}, {2, 1}}, []int{1}},
		{[][]int{{4, 4}}, []int{4, 4}},
		{[][]int{nil}, nil},
		{[][]int{{}, nil}, nil},
		{[][]int{{-1}, nil}, nil},
		{[][]int{{0}, {-1}, {1}}, []int{-1}},
		{[][]int{{3, 1}, {3, 1}, {3, 2}, {3, 1}}, []int{3, 1}},
		{[][]int{count(20), count(17), count(18)}, count(17)},
		{[][]int{{math.MaxInt}, {math.MinInt}}, []int{math.MinInt}},
	}
	for _, r := range rows {
		in := make([][]int, len(r.l))
		for i, l := range r.l {
			in[i] = roomy(l)
		}
		if got, ok := Least(in...); !slices.Equal(got, r.want) || !ok {
			t.Errorf("Least(%v) is %v, %v; want %v, true", r.l, got, ok, r.want)
		}
		apart(t, "Least", r.want, func() []int { got, _ := Least(in...); return got }, in...)
	}
}

// TestLeastKeepsTheListInOrder: the list of the tuples is the caller's, too.
func TestLeastKeepsTheListInOrder(t *testing.T) {
	in := [][]int{{3}, {1}, {2}, {spare}}
	Least(in[:3]...)
	if fmt.Sprint(in) != fmt.Sprint([][]int{{3}, {1}, {2}, {spare}}) {
		t.Errorf("Least made the list %v", in)
	}
}

// TestLeastOfMany holds it against a sort that keeps those alike in order.
func TestLeastOfMany(t *testing.T) {
	all := sample()
	r := rand.New(rand.NewSource(6))
	for range 300 {
		l := make([][]int, 1+r.Intn(6))
		for i := range l {
			l[i] = all[r.Intn(len(all))]
		}
		sorted := slices.Clone(l)
		slices.SortStableFunc(sorted, plainCompare)
		if got, ok := Least(l...); !slices.Equal(got, sorted[0]) || !ok {
			t.Errorf("Least(%v) is %v, %v; want %v", l, got, ok, sorted[0])
		}
	}
}

// P2.7

func TestCompareIsAnOrder(t *testing.T) {
	all := sample()
	for _, a := range all {
		for _, b := range all {
			if Compare(a, b) != -Compare(b, a) {
				t.Fatalf("Compare(%v, %v) is not the opposite the other way round", a, b)
			}
			if (Compare(a, b) == 0) != slices.Equal(a, b) {
				t.Fatalf("Compare(%v, %v) is %d", a, b, Compare(a, b))
			}
			if Compare(a, b) > 0 {
				continue
			}
			for _, c := range all {
				if Compare(b, c) <= 0 && Compare(a, c) > 0 {
					t.Fatalf("%v, %v, %v: the first is behind the third", a, b, c)
				}
			}
		}
	}
}

// laws checks on two tuples and a set of columns what follows from the other promises.
func laws(t *testing.T, a, b []int, c api.Columns) {
	t.Helper()
	same := Compare(a, b) == 0
	if Equal(a, b) != same || Compare(b, a) != -Compare(a, b) {
		t.Errorf("%v, %v: Equal and Compare", a, b)
	}
	if same && Hash(a) != Hash(b) {
		t.Errorf("%v, %v: Equal, with two hashes", a, b)
	}
	keyA, errA := Key(a)
	keyB, errB := Key(b)
	if (errA == api.OK) != (len(a) <= api.MaxArity) || (errB == api.OK) != (len(b) <= api.MaxArity) {
		t.Errorf("%v, %v: Key answers %v, %v", a, b, errA, errB)
	}
	if errA == api.OK && len(a) == len(b) && (keyA == keyB) != same {
		t.Errorf("%v, %v: the keys are %v, %v", a, b, keyA, keyB)
	}
	if errA == api.OK {
		if back, e := From(keyA, len(a)); !slices.Equal(back, a) || e != api.OK {
			t.Errorf("%v: From of its Key is %v, %v", a, back, e)
		}
	}
	cutA, errA := Cut(a, c)
	cutB, errB := Cut(b, c)
	if want := errA == api.OK && errB == api.OK && Equal(cutA, cutB); Agree(a, b, c) != want || Agree(b, a, c) != want {
		t.Errorf("%v, %v: Agree in %d is not %v", a, b, c, want)
	}
}

func TestLaws(t *testing.T) {
	for _, a := range sample() {
		for _, b := range sample() {
			for _, c := range sets() {
				laws(t, a, b, c)
			}
		}
	}
}

// FuzzLaws takes numbers of one byte each, so that many are alike.
func FuzzLaws(f *testing.F) {
	f.Add([]byte{1, 2}, []byte{1, 3}, uint16(1))
	f.Add([]byte{}, []byte{0}, uint16(0))
	f.Add(make([]byte, 16), make([]byte, 17), uint16(65535))
	f.Add(make([]byte, 17), make([]byte, 17), uint16(32768))
	f.Fuzz(func(t *testing.T, x, y []byte, c uint16) {
		a, b := make([]int, len(x)), make([]int, len(y))
		for i, n := range x {
			a[i] = int(int8(n))
		}
		for i, n := range y {
			b[i] = int(int8(n))
		}
		laws(t, a, b, api.Columns(c))
		if Compare(a, b) != plainCompare(a, b) || Hash(a) != plainHash(a) {
			t.Errorf("%v, %v: Compare is %d, Hash is %d", a, b, Compare(a, b), Hash(a))
		}
		if least, ok := Least(a, b); !ok || Compare(least, a) > 0 || Compare(least, b) > 0 || !Equal(least, a) && !Equal(least, b) {
			t.Errorf("Least(%v, %v) is %v, %v", a, b, least, ok)
		}
	})
}
