package relation

import (
	"fmt"
	"iter"
	"math"
	"math/rand"
	"runtime"
	"slices"
	"strings"
	"testing"
	"weak"

	"inkling/api"
)

type (
	ints   = []int
	tuples = [][]int
)

func of(t testing.TB, arity int, list ...ints) *Relation {
	t.Helper()
	r, e := New(arity)
	if r == nil || e != api.OK {
		t.Fatalf("New(%d) is %v, %v", arity, r, e)
	}
	for _, x := range list {
		if _, _, e := r.Add(x); e != api.OK {
			t.Fatalf("Add(%v) is %v", x, e)
		}
	}
	return r
}

// example is the relation of the chapter's examples.
func example(t testing.TB) *Relation {
	t.Helper()
	return of(t, 2, ints{3, 1}, ints{0, 1}, ints{3, 2}, ints{3, 1})
}

// tells says what All or Match tells, as one line.
func tells(told iter.Seq2[int, []int]) string {
	var l []string
	for place, x := range told {
		l = append(l, fmt.Sprint(place, x))
	}
	return strings.Join(l, ", ")
}

func want[T comparable](t testing.TB, call string, got, wanted T) {
	t.Helper()
	if got != wanted {
		t.Errorf("%s is %v; want %v", call, got, wanted)
	}
}

func wantAdd(t testing.TB, r *Relation, x ints, place int, came bool, errno api.Errno) {
	t.Helper()
	if p, c, e := r.Add(x); p != place || c != came || e != errno {
		t.Errorf("Add(%v) is %d, %v, %v; want %d, %v, %v", x, p, c, e, place, came, errno)
	}
}

func wantPlace(t testing.TB, r *Relation, x ints, place int, there bool) {
	t.Helper()
	if p, ok := r.Place(x); p != place || ok != there {
		t.Errorf("Place(%v) is %d, %v; want %d, %v", x, p, ok, place, there)
	}
}

func wantAt(t testing.TB, r *Relation, place int, x ints, there bool) {
	t.Helper()
	if y, ok := r.At(place); !slices.Equal(y, x) || ok != there || !there && y != nil {
		t.Errorf("At(%d) is %v, %v; want %v, %v", place, y, ok, x, there)
	}
}

func wantCount(t testing.TB, r *Relation, columns, key ints, from, to, count int, errno api.Errno) {
	t.Helper()
	if n, e := r.Count(columns, key, from, to); n != count || e != errno {
		t.Errorf("Count(%v, %v, %d, %d) is %d, %v; want %d, %v", columns, key, from, to, n, e, count, errno)
	}
}

func wantDistinct(t testing.TB, r *Relation, columns ints, count int, errno api.Errno) {
	t.Helper()
	if n, e := r.Distinct(columns...); n != count || e != errno {
		t.Errorf("Distinct(%v) is %d, %v; want %d, %v", columns, n, e, count, errno)
	}
}

// list is a plain list of tuples that is looked through: what a relation must agree with.
type list struct {
	arity int
	all   tuples
}

func (l *list) find(x ints) int {
	return slices.IndexFunc(l.all, func(y ints) bool { return slices.Equal(x, y) })
}

func (l *list) add(x ints) (int, bool) {
	if place := l.find(x); place >= 0 {
		return place, false
	}
	l.all = append(l.all, slices.Clone(x))
	return len(l.all) - 1, true
}

func cut(x, columns ints) ints {
	var key ints
	for _, c := range columns {
		key = append(key, x[c])
	}
	return key
}

// places go by the chapter's words, for columns that are a row.
func (l *list) places(columns, key ints, from, to int) ints {
	var places ints
	for place, x := range l.all {
		if place >= from && place < to && slices.Equal(cut(x, columns), key) {
			places = append(places, place)
		}
	}
	return places
}

// match is what Match must tell, as tells says it, and how many these are.
func (l *list) match(columns, key ints, from, to int) (string, int) {
	var told []string
	places := l.places(columns, key, from, to)
	for _, place := range places {
		told = append(told, fmt.Sprint(place, l.all[place]))
	}
	return strings.Join(told, ", "), len(places)
}

// keys are the unlike ones of a row, in the order in which they come.
func (l *list) keys(columns ints) tuples {
	var keys tuples
	for _, x := range l.all {
		key := cut(x, columns)
		if !slices.ContainsFunc(keys, func(k ints) bool { return slices.Equal(k, key) }) {
			keys = append(keys, key)
		}
	}
	return keys
}

// rows are all rows of columns of an arity.
func rows(arity int) tuples {
	var all tuples
	for set := range 1 << arity {
		var columns ints
		for c := range arity {
			if set>>c&1 == 1 {
				columns = append(columns, c)
			}
		}
		all = append(all, columns)
	}
	return all
}

type ends struct{ from, to int }

// stretches are of all sorts: empty, whole, out of the bounds, the wrong way round.
func stretches(n int) []ends {
	return []ends{
		{0, n}, {math.MinInt, math.MaxInt}, {-1, n + 1}, {0, 0}, {n, n}, {n, n + 5}, {n + 5, n + 9}, {-5, 0}, {-5, -1}, {0, 1}, {-3, 1},
		{n - 1, n}, {n - 1, n + 3}, {1, n - 1}, {n / 2, n}, {0, n / 2}, {n / 3, n/3 + 1}, {n / 3, n / 3}, {n, 0}, {2, 1}, {n / 2, n/2 - 1},
		{math.MaxInt, math.MinInt}, {math.MaxInt, math.MaxInt}, {math.MinInt, math.MinInt}, {0, math.MinInt}, {math.MaxInt, n},
	}
}

// agrees holds a relation against a list by every call that tells something.
func agrees(t testing.TB, r *Relation, l *list) {
	t.Helper()
	n := len(l.all)
	want(t, "Arity", r.Arity(), l.arity)
	want(t, "Len", r.Len(), n)
	for place, x := range l.all {
		wantPlace(t, r, x, place, true)
		wantAt(t, r, place, x, true)
	}
	for _, place := range []int{-1, n, n + 1, math.MinInt, math.MaxInt} {
		wantAt(t, r, place, nil, false)
	}
	for _, s := range stretches(n) {
		told, _ := l.match(nil, nil, s.from, s.to)
		want(t, fmt.Sprint("All of ", s), tells(r.All(s.from, s.to)), told)
	}
}

// agreesOn holds it by a row of columns: of the keys that are there, and of some that are not.
func agreesOn(t testing.TB, r *Relation, l *list, columns ints) {
	t.Helper()
	keys := l.keys(columns)
	wantDistinct(t, r, columns, len(keys), api.OK)
	strange := slices.Repeat(ints{9999}, len(columns))
	below := slices.Repeat(ints{-1}, len(columns))
	for _, key := range append(keys, strange, below) {
		for _, s := range stretches(len(l.all)) {
			told, count := l.match(columns, key, s.from, s.to)
			want(t, fmt.Sprint("Match of ", columns, key, s), tells(r.Match(columns, key, s.from, s.to)), told)
			wantCount(t, r, columns, key, s.from, s.to, count, api.OK)
		}
	}
}

func agreesInAll(t testing.TB, r *Relation, l *list) {
	t.Helper()
	agrees(t, r, l)
	for _, columns := range rows(l.arity) {
		agreesOn(t, r, l, columns)
	}
}

// some draws tuples with so few values that many come twice and share their columns.
func some(draw *rand.Rand, arity, count, values int) tuples {
	all := make(tuples, count)
	for i := range all {
		all[i] = make(ints, arity)
		for c := range all[i] {
			all[i][c] = draw.Intn(values)
		}
	}
	return all
}

// The chapter's examples.
func TestExamples(t *testing.T) {
	for _, arity := range []int{17, -1} {
		if r, e := New(arity); r != nil || e != api.ErrArg {
			t.Errorf("New(%d) is %v, %v; want nil, ErrArg", arity, r, e)
		}
	}
	none := of(t, 0)
	wantAdd(t, none, ints{}, 0, true, api.OK)
	wantAdd(t, none, ints{}, 0, false, api.OK)

	r := of(t, 2)
	wantAdd(t, r, ints{3, 1}, 0, true, api.OK)
	wantAdd(t, r, ints{0, 1}, 1, true, api.OK)
	wantAdd(t, r, ints{3, 2}, 2, true, api.OK)
	wantAdd(t, r, ints{3, 1}, 0, false, api.OK)
	wantAdd(t, r, ints{1}, 0, false, api.ErrArg)
	wantAdd(t, r, ints{1, -1}, 0, false, api.ErrArg)

	wantPlace(t, r, ints{3, 2}, 2, true)
	wantPlace(t, r, ints{2, 3}, 0, false)
	wantAt(t, r, 1, ints{0, 1}, true)
	wantAt(t, r, 3, nil, false)

	want(t, "All(1, 9)", tells(r.All(1, 9)), "1 [0 1], 2 [3 2]")
	want(t, "All(-5, 1)", tells(r.All(-5, 1)), "0 [3 1]")
	want(t, "All(2, 2)", tells(r.All(2, 2)), "")

	want(t, "Match of 3", tells(r.Match(ints{0}, ints{3}, 0, 3)), "0 [3 1], 2 [3 2]")
	want(t, "Match of 1 from 1 on", tells(r.Match(ints{1}, ints{1}, 1, 3)), "1 [0 1]")
	want(t, "Match of no columns", tells(r.Match(nil, nil, 0, 3)), "0 [3 1], 1 [0 1], 2 [3 2]")
	want(t, "Match of all columns", tells(r.Match(ints{0, 1}, ints{3, 2}, 0, 3)), "2 [3 2]")
	want(t, "Match of falling columns", tells(r.Match(ints{1, 0}, ints{2, 3}, 0, 3)), "")
	want(t, "Match of a long key", tells(r.Match(ints{0}, ints{3, 1}, 0, 3)), "")

	wantCount(t, r, ints{0}, ints{3}, 0, 2, 1, api.OK)
	wantCount(t, r, ints{2}, ints{0}, 0, 3, 0, api.ErrArg)
	wantCount(t, r, ints{0}, ints{}, 0, 3, 0, api.ErrArg)
	wantDistinct(t, r, ints{0}, 2, api.OK)
	wantDistinct(t, r, ints{1}, 2, api.OK)
	wantDistinct(t, r, ints{}, 1, api.OK)
	wantDistinct(t, r, ints{0, 1}, 3, api.OK)

	var told ints
	for place := range r.Match(ints{0}, ints{3}, 0, 9) {
		told = append(told, place)
		r.Add(ints{3, 7})
	}
	if !slices.Equal(told, ints{0, 2}) {
		t.Errorf("a loop that adds is told %v; want 0 and 2", told)
	}
}

// P4.1

func TestNewRefusesArities(t *testing.T) {
	for _, arity := range []int{-1, -2, 17, 18, 1 << 16, math.MinInt, math.MaxInt} {
		if r, e := New(arity); r != nil || e != api.ErrArg {
			t.Errorf("New(%d) is %v, %v; want nil, ErrArg", arity, r, e)
		}
	}
}

func TestNewHasNoTuples(t *testing.T) {
	for arity := range api.MaxArity + 1 {
		agrees(t, of(t, arity), &list{arity: arity})
		wantPlace(t, of(t, arity), make(ints, arity), 0, false)
		wantDistinct(t, of(t, arity), nil, 0, api.OK)
		wantCount(t, of(t, arity), nil, nil, 0, 9, 0, api.OK)
	}
	agreesInAll(t, of(t, 5), &list{arity: 5})
}

func TestRelationsAreApart(t *testing.T) {
	r, s := of(t, 1), of(t, 1)
	wantAdd(t, r, ints{5}, 0, true, api.OK)
	wantPlace(t, s, ints{5}, 0, false)
	wantAdd(t, s, ints{6}, 0, true, api.OK)
	want(t, "All", tells(r.All(0, 9)), "0 [5]")
	want(t, "All of the other", tells(s.All(0, 9)), "0 [6]")
	want(t, "Match of what the other has", tells(r.Match(ints{0}, ints{6}, 0, 9)), "")
}

// P4.2

func TestArityAndLen(t *testing.T) {
	for arity := range api.MaxArity + 1 {
		r := of(t, arity)
		want(t, "Arity", r.Arity(), arity)
		for n := range 3 {
			want(t, "Len", r.Len(), min(n, 1<<arity))
			x := make(ints, arity)
			if arity > 0 {
				x[arity-1] = n
			}
			r.Add(x)
			r.Add(x)
		}
		want(t, "Arity behind Add", r.Arity(), arity)
	}
}

// P4.3

func TestAddRefuses(t *testing.T) {
	r := example(t)
	r.Distinct(0)
	wrong := tuples{
		nil, {}, {1}, {3, 1, 0}, {1, 2, 3}, make(ints, 16), make(ints, 17), make(ints, 1000),
		{1, -1}, {-1, 1}, {-1, -1}, {math.MinInt, 0}, {0, math.MinInt}, {3, -1},
	}
	for _, x := range wrong {
		wantAdd(t, r, x, 0, false, api.ErrArg)
	}
	agreesInAll(t, r, &list{arity: 2, all: tuples{{3, 1}, {0, 1}, {3, 2}}})
	wantAdd(t, r, ints{9, 9}, 3, true, api.OK)
}

func TestAddRefusesOfEveryArity(t *testing.T) {
	for arity := range api.MaxArity + 1 {
		r := of(t, arity)
		for n := range 20 {
			if n != arity {
				wantAdd(t, r, make(ints, n), 0, false, api.ErrArg)
			}
		}
		for c := range arity {
			x := make(ints, arity)
			x[c] = -1
			wantAdd(t, r, x, 0, false, api.ErrArg)
		}
		want(t, "Len of a relation that refused", r.Len(), 0)
		wantAdd(t, r, make(ints, arity), 0, true, api.OK)
	}
}

func TestAddOfGreatValues(t *testing.T) {
	r := of(t, 2)
	wantAdd(t, r, ints{math.MaxInt, 0}, 0, true, api.OK)
	wantAdd(t, r, ints{0, math.MaxInt}, 1, true, api.OK)
	wantAdd(t, r, ints{math.MaxInt, math.MaxInt}, 2, true, api.OK)
	wantAdd(t, r, ints{math.MaxInt32 + 1, 0}, 3, true, api.OK)
	wantAdd(t, r, ints{math.MaxInt, 0}, 0, false, api.OK)
	agreesInAll(t, r, &list{arity: 2, all: tuples{{math.MaxInt, 0}, {0, math.MaxInt}, {math.MaxInt, math.MaxInt}, {math.MaxInt32 + 1, 0}}})
}

func TestAddAgain(t *testing.T) {
	draw := rand.New(rand.NewSource(41))
	for arity := range 5 {
		r, l := of(t, arity), &list{arity: arity}
		for _, x := range some(draw, arity, 400, 4) {
			place, came := l.add(x)
			wantAdd(t, r, x, place, came, api.OK)
			wantAdd(t, r, x, place, false, api.OK)
			want(t, "Len", r.Len(), len(l.all))
		}
		agrees(t, r, l)
	}
}

// P4.4

func TestPlaceOfWhatIsNotThere(t *testing.T) {
	r := example(t)
	absent := tuples{
		nil, {}, {3}, {1}, {1, 3}, {2, 3}, {3, 3}, {0, 0}, {3, 1, 0}, {0, 3, 1}, {-1, 1}, {3, -1}, {math.MinInt, math.MaxInt}, make(ints, 17),
	}
	for _, x := range absent {
		wantPlace(t, r, x, 0, false)
	}
	wantPlace(t, r, ints{3, 1}, 0, true)
	want(t, "Len behind Place", r.Len(), 3)
}

func TestPlaceAndAtAreOpposite(t *testing.T) {
	r := of(t, 3)
	for i := range 1000 {
		wantAdd(t, r, ints{i % 10, i / 10 % 10, i / 100}, i, true, api.OK)
	}
	for i := range 1000 {
		x := ints{i % 10, i / 10 % 10, i / 100}
		wantPlace(t, r, x, i, true)
		wantAt(t, r, i, x, true)
	}
	for _, place := range []int{-1, 1000, 1001, math.MinInt, math.MaxInt} {
		wantAt(t, r, place, nil, false)
	}
}

// P4.5

func TestAllOfStretches(t *testing.T) {
	draw := rand.New(rand.NewSource(45))
	for arity := range 4 {
		r, l := of(t, arity), &list{arity: arity}
		for _, x := range some(draw, arity, 30, 3) {
			r.Add(x)
			l.add(x)
		}
		for from := -3; from < len(l.all)+3; from++ {
			for to := -3; to < len(l.all)+3; to++ {
				told, count := l.match(nil, nil, from, to)
				want(t, fmt.Sprint("All of ", from, to), tells(r.All(from, to)), told)
				want(t, fmt.Sprint("Match of no columns of ", from, to), tells(r.Match(nil, ints{}, from, to)), told)
				wantCount(t, r, ints{}, nil, from, to, count, api.OK)
			}
		}
		agrees(t, r, l)
	}
}

// P4.6

func TestMatchOfEveryRow(t *testing.T) {
	draw := rand.New(rand.NewSource(46))
	for arity := range 6 {
		r, l := of(t, arity), &list{arity: arity}
		for _, x := range some(draw, arity, 25, 3) {
			r.Add(x)
			l.add(x)
		}
		agreesInAll(t, r, l)
	}
}

func TestMatchOfStretches(t *testing.T) {
	r, l := of(t, 2), &list{arity: 2}
	for i := range 24 {
		r.Add(ints{i % 3, i})
		l.add(ints{i % 3, i})
	}
	for from := -2; from < 27; from++ {
		for to := -2; to < 27; to++ {
			for key := range 4 {
				told, count := l.match(ints{0}, ints{key}, from, to)
				want(t, fmt.Sprint("Match of ", key, from, to), tells(r.Match(ints{0}, ints{key}, from, to)), told)
				wantCount(t, r, ints{0}, ints{key}, from, to, count, api.OK)
			}
			told, count := l.match(ints{1}, ints{7}, from, to)
			want(t, fmt.Sprint("Match of one place in ", from, to), tells(r.Match(ints{1}, ints{7}, from, to)), told)
			wantCount(t, r, ints{1}, ints{7}, from, to, count, api.OK)
		}
	}
}

// notRows are columns that are no row of a relation of three.
func notRows() tuples {
	return tuples{
		{3}, {4}, {15}, {16}, {-1}, {math.MinInt}, {math.MaxInt}, {0, 3}, {-1, 0}, {1, 0}, {2, 1}, {0, 0}, {2, 2}, {0, 2, 1}, {1, 1, 2},
		{0, 1, 2, 3}, {0, 1, 2, 2}, {0, 1, 2, 0}, {-1, 0, 1, 2}, slices.Repeat(ints{0}, 100),
	}
}

func TestColumnsThatAreNoRow(t *testing.T) {
	r := of(t, 3, ints{1, 1, 1}, ints{1, 2, 1})
	for _, columns := range notRows() {
		key := slices.Repeat(ints{1}, len(columns))
		want(t, fmt.Sprint("Match of ", columns), tells(r.Match(columns, key, 0, 9)), "")
		wantCount(t, r, columns, key, 0, 9, 0, api.ErrArg)
		wantCount(t, r, columns, nil, 0, 9, 0, api.ErrArg)
		wantDistinct(t, r, columns, 0, api.ErrArg)
	}
	agreesInAll(t, r, &list{arity: 3, all: tuples{{1, 1, 1}, {1, 2, 1}}})
}

func TestKeysOfAnotherLength(t *testing.T) {
	r := of(t, 3, ints{1, 1, 1}, ints{0, 0, 0})
	for _, columns := range rows(3) {
		for n := range 20 {
			if n != len(columns) {
				key := slices.Repeat(ints{1}, n)
				want(t, fmt.Sprint("Match of ", columns, key), tells(r.Match(columns, key, 0, 9)), "")
				wantCount(t, r, columns, key, 0, 9, 0, api.ErrArg)
				wantCount(t, r, columns, make(ints, n), 5, 0, 0, api.ErrArg)
			}
		}
	}
}

func TestKeysBelowZero(t *testing.T) {
	r := example(t)
	for _, value := range []int{-1, -2, -3, math.MinInt} {
		want(t, "Match of a key below 0", tells(r.Match(ints{0}, ints{value}, 0, 9)), "")
		wantCount(t, r, ints{0}, ints{value}, 0, 9, 0, api.OK)
		wantCount(t, r, ints{0, 1}, ints{3, value}, 0, 9, 0, api.OK)
		wantCount(t, r, ints{0, 1}, ints{value, 1}, 0, 9, 0, api.OK)
	}
}

func TestLookingAddsNothing(t *testing.T) {
	r := example(t)
	for key := range 50 {
		want(t, "Match of what is not there", tells(r.Match(ints{1}, ints{100 + key}, 0, 9)), "")
		wantCount(t, r, ints{1}, ints{100 + key}, 0, 9, 0, api.OK)
		wantPlace(t, r, ints{3, 100 + key}, 0, false)
	}
	wantDistinct(t, r, ints{1}, 2, api.OK)
	wantDistinct(t, r, ints{0, 1}, 3, api.OK)
	agreesInAll(t, r, &list{arity: 2, all: tuples{{3, 1}, {0, 1}, {3, 2}}})
}

// A row may be asked for first at any time; what came ahead of it and what comes behind it are both found.
func TestRowsThatAreAskedForAtAnyTime(t *testing.T) {
	draw := rand.New(rand.NewSource(47))
	for first := range 12 {
		r, l := of(t, 3), &list{arity: 3}
		for i, x := range some(draw, 3, 12, 2) {
			if i == first {
				for _, columns := range rows(3) {
					agreesOn(t, r, l, columns)
				}
			}
			r.Add(x)
			l.add(x)
		}
		agreesInAll(t, r, l)
	}
}

// Of a relation without columns the empty row is all of them.
func TestRelationWithoutColumns(t *testing.T) {
	r := of(t, 0)
	agreesInAll(t, r, &list{})
	wantAdd(t, r, ints{0}, 0, false, api.ErrArg)
	wantAdd(t, r, nil, 0, true, api.OK)
	wantAdd(t, r, ints{}, 0, false, api.OK)
	agreesInAll(t, r, &list{all: tuples{{}}})
	wantPlace(t, r, nil, 0, true)
	wantPlace(t, r, ints{0}, 0, false)
	wantCount(t, r, ints{0}, ints{0}, 0, 1, 0, api.ErrArg)
	wantDistinct(t, r, ints{0}, 0, api.ErrArg)
	want(t, "Match of a column", tells(r.Match(ints{0}, ints{0}, 0, 1)), "")
	agreesInAll(t, r.Copy(), &list{all: tuples{{}}})
}

// All 65536 rows of the greatest arity, in one relation; one more tuple comes when they all have been asked for.
func TestRowsOfTheGreatestArity(t *testing.T) {
	low, none, every := make(ints, api.MaxArity), make(ints, api.MaxArity), slices.Repeat(ints{1}, api.MaxArity)
	copy(low, every[:api.MaxArity/2])
	r, l := of(t, api.MaxArity, none, every), &list{arity: api.MaxArity, all: tuples{none, every}}
	counts := func() {
		for _, columns := range rows(api.MaxArity) {
			for _, x := range l.all {
				key := cut(x, columns)
				wantCount(t, r, columns, key, 0, 9, len(l.places(columns, key, 0, 9)), api.OK)
			}
			wantDistinct(t, r, columns, len(l.keys(columns)), api.OK)
		}
	}
	counts()
	wantAdd(t, r, low, 2, true, api.OK)
	l.add(low)
	counts()
	all := rows(api.MaxArity)[1<<api.MaxArity-1]
	agreesOn(t, r, l, all)
	wantDistinct(t, r, append(all, 16), 0, api.ErrArg)
	agrees(t, r, l)
}

// P4.7

func TestDistinct(t *testing.T) {
	r := of(t, 3)
	for _, columns := range rows(3) {
		wantDistinct(t, r, columns, 0, api.OK)
	}
	for i := range 60 {
		r.Add(ints{i % 4, i % 5, 7})
		r.Add(ints{i % 4, i % 5, 7})
	}
	for _, c := range []struct {
		columns ints
		count   int
	}{{nil, 1}, {ints{0}, 4}, {ints{1}, 5}, {ints{2}, 1}, {ints{0, 1}, 20}, {ints{0, 2}, 4}, {ints{1, 2}, 5}, {ints{0, 1, 2}, 20}} {
		wantDistinct(t, r, c.columns, c.count, api.OK)
	}
	r.Add(ints{4, 0, 8})
	wantDistinct(t, r, ints{0}, 5, api.OK)
	wantDistinct(t, r, ints{1}, 5, api.OK)
	wantDistinct(t, r, ints{2}, 2, api.OK)
	wantDistinct(t, r, nil, 1, api.OK)
}

// P4.8

// walks are All and Match of a relation whose tuples have a 1 in the column 0: all that it had when a loop begins.
func walks(r *Relation) map[string]iter.Seq2[int, []int] {
	return map[string]iter.Seq2[int, []int]{
		"All":                  r.All(0, math.MaxInt),
		"Match":                r.Match(ints{0}, ints{1}, 0, math.MaxInt),
		"Match of no columns":  r.Match(nil, nil, 0, math.MaxInt),
		"Match from below on":  r.Match(ints{0}, ints{1}, math.MinInt, math.MaxInt),
		"Match of two columns": r.Match(ints{0, 2}, ints{1, 5}, 0, 1000),
	}
}

func TestWhatComesMeanwhileIsToldNextTime(t *testing.T) {
	for name := range walks(nil) {
		for asked := range 2 {
			r := of(t, 3)
			walk := walks(r)[name]
			if asked == 1 {
				want(t, name+" of nothing", tells(walk), "")
			}
			length := 1
			r.Add(ints{1, 0, 5})
			for range 6 {
				told := 0
				for place, x := range walk {
					want(t, name+" tells the place", place, told)
					want(t, name+" tells the tuple", fmt.Sprint(x), fmt.Sprint(ints{1, place, 5}))
					told++
					r.Add(ints{1, length + told - 1, 5})
					r.Add(x)
				}
				want(t, name+": how many are told", told, length)
				length += told
				want(t, name+": Len", r.Len(), length)
			}
		}
	}
}

// A list of places that has room behind it, and one that has none, must both stay as they were.
func TestMatchOfEveryLengthWhileTuplesCome(t *testing.T) {
	for n := range 40 {
		r := of(t, 2)
		for i := range n {
			r.Add(ints{1, i})
		}
		walk := r.Match(ints{0}, ints{1}, 0, 1000)
		told := 0
		for place := range walk {
			want(t, "the place", place, told)
			if told == 0 {
				for i := range 50 {
					r.Add(ints{1, n + i})
				}
			}
			told++
		}
		want(t, "how many are told", told, n)
	}
}

func TestWalksAreLeftEarlyAndBegunAgain(t *testing.T) {
	r := of(t, 3)
	for i := range 5 {
		r.Add(ints{1, i, 5})
	}
	for name, walk := range walks(r) {
		whole := tells(walk)
		for leave := range 5 {
			turns := 0
			walk(func(place int, x []int) bool {
				want(t, name+" tells the place", place, turns)
				turns++
				return turns <= leave
			})
			want(t, name+": how many are told", turns, leave+1)
		}
		want(t, name+", gone over again", tells(walk), whole)
		r.Add(ints{0, 0, 5})
	}
	want(t, "Len", r.Len(), 6)
}

func TestWalksWithinWalks(t *testing.T) {
	r := of(t, 3, ints{1, 0, 5}, ints{1, 1, 5})
	walk := r.Match(ints{0}, ints{1}, 0, 9)
	var told []string
	for outer := range walk {
		for inner := range walk {
			told = append(told, fmt.Sprint(outer, inner))
			r.Add(ints{1, 2 + outer, 5})
		}
	}
	want(t, "what is told", strings.Join(told, ", "), "0 0, 0 1, 1 0, 1 1, 1 2")
}

func TestRowsThatAreAskedForWithinAWalk(t *testing.T) {
	r, l := of(t, 2), &list{arity: 2}
	for i := range 9 {
		r.Add(ints{i % 2, i})
		l.add(ints{i % 2, i})
	}
	for range r.All(0, 9) {
		for _, columns := range rows(2) {
			agreesOn(t, r, l, columns)
		}
		x := ints{1, len(l.all)}
		l.add(x)
		r.Add(x)
	}
	agreesInAll(t, r, l)
}

// P4.9

func TestCopyIsTheSame(t *testing.T) {
	draw := rand.New(rand.NewSource(49))
	for arity := range 4 {
		for _, count := range []int{0, 1, 2, 40} {
			r, l := of(t, arity), &list{arity: arity}
			for _, x := range some(draw, arity, count, 3) {
				r.Add(x)
				l.add(x)
			}
			agreesInAll(t, r.Copy(), l)
			agreesInAll(t, r, l)
			agreesInAll(t, r.Copy(), l)
			agreesInAll(t, r.Copy().Copy(), l)
		}
	}
}

// Lists of places of every length, made ahead of the copies and behind them. Each goes on with another number of tuples of its own first, so that the next place is another one in each.
func TestCopyGoesOnApart(t *testing.T) {
	for n := range 20 {
		for asked := range 2 {
			r, l := of(t, 2), &list{arity: 2}
			for i := range n {
				r.Add(ints{1, i})
				l.add(ints{1, i})
			}
			if asked == 1 {
				agreesInAll(t, r, l)
			}
			c := r.Copy()
			all := []*Relation{r, c, r.Copy(), c.Copy(), r.Copy().Copy()}
			var lists []*list
			for i, x := range all {
				own := &list{arity: 2, all: slices.Clone(l.all)}
				goOn(t, x, own, i, i)
				lists = append(lists, own)
			}
			for i, x := range all {
				agreesInAll(t, x, lists[i])
				goOn(t, x, lists[i], 10+i, 4-i)
			}
			for i, x := range all {
				agreesInAll(t, x, lists[i])
			}
		}
	}
}

// goOn adds a tuple of the key 1 behind some of another one.
func goOn(t *testing.T, r *Relation, l *list, name, others int) {
	t.Helper()
	for i := range others {
		place, came := l.add(ints{2, 1000*name + i})
		wantAdd(t, r, ints{2, 1000*name + i}, place, came, api.OK)
	}
	place, came := l.add(ints{1, 100 + name})
	wantAdd(t, r, ints{1, 100 + name}, place, came, api.OK)
	wantPlace(t, r, ints{1, 99 + name}, 0, false)
}

func TestCopyWithinAWalk(t *testing.T) {
	r := of(t, 2, ints{1, 0}, ints{1, 1})
	for place := range r.Match(ints{0}, ints{1}, 0, 9) {
		c := r.Copy()
		wantAdd(t, c, ints{1, 5 + place}, 2, true, api.OK)
		want(t, "Match of the copy", tells(c.Match(ints{0}, ints{1}, 2, 9)), fmt.Sprint(2, ints{1, 5 + place}))
	}
	want(t, "Len", r.Len(), 2)
	walk := r.All(0, 9)
	r.Copy().Add(ints{7, 7})
	want(t, "All behind a copy", tells(walk), "0 [1 0], 1 [1 1]")
}

// P4.10

func TestWhatFollows(t *testing.T) {
	draw := rand.New(rand.NewSource(50))
	for arity := 1; arity < 5; arity++ {
		r := of(t, arity, some(draw, arity, 60, 3)...)
		for _, columns := range rows(arity) {
			partsAreTheWhole(t, r, columns, draw)
			countsMakeLen(t, r, columns)
			oneMoreColumn(t, r, columns)
		}
	}
}

// joined is what is told of two parts, one behind the other.
func joined(first, second string) string {
	if first == "" || second == "" {
		return first + second
	}
	return first + ", " + second
}

func partsAreTheWhole(t *testing.T, r *Relation, columns ints, draw *rand.Rand) {
	t.Helper()
	for range 20 {
		x, _ := r.At(draw.Intn(r.Len()))
		key := cut(x, columns)
		p := ints{draw.Intn(70) - 5, draw.Intn(70) - 5, draw.Intn(70) - 5}
		slices.Sort(p)
		whole := tells(r.Match(columns, key, p[0], p[2]))
		parts := joined(tells(r.Match(columns, key, p[0], p[1])), tells(r.Match(columns, key, p[1], p[2])))
		want(t, fmt.Sprint("Match of ", columns, key, p), parts, whole)
	}
}

func countsMakeLen(t *testing.T, r *Relation, columns ints) {
	t.Helper()
	sum, keys := 0, map[string]int{}
	for _, x := range r.All(0, r.Len()) {
		key := cut(x, columns)
		if keys[fmt.Sprint(key)]++; keys[fmt.Sprint(key)] == 1 {
			n, _ := r.Count(columns, key, 0, r.Len())
			sum += n
		}
	}
	want(t, fmt.Sprint("the sum of the counts of ", columns), sum, r.Len())
	wantDistinct(t, r, columns, len(keys), api.OK)
}

func oneMoreColumn(t *testing.T, r *Relation, columns ints) {
	t.Helper()
	fewer, _ := r.Distinct(columns...)
	for c := range r.Arity() {
		if slices.Contains(columns, c) {
			continue
		}
		more := append(ints{c}, columns...)
		slices.Sort(more)
		if n, _ := r.Distinct(more...); n < fewer {
			t.Errorf("Distinct(%v) is %d, and of %v %d", more, n, columns, fewer)
		}
	}
}

// P4.11

func TestRelationsThatAreNotThere(t *testing.T) {
	refused, _ := New(17)
	for name, r := range map[string]*Relation{"nil": nil, "zero": {}, "refused": refused, "a copy of nil": (*Relation)(nil).Copy(), "a copy of zero": (&Relation{}).Copy()} {
		for range 2 {
			want(t, name+": Arity", r.Arity(), 0)
			want(t, name+": Len", r.Len(), 0)
			for _, x := range []ints{nil, {}, {1}, {-1}, make(ints, 17)} {
				wantAdd(t, r, x, 0, false, api.ErrNil)
				wantPlace(t, r, x, 0, false)
			}
			for _, place := range []int{0, 1, -1, math.MaxInt, math.MinInt} {
				wantAt(t, r, place, nil, false)
			}
			for _, columns := range append(notRows(), nil, ints{0}) {
				wantCount(t, r, columns, columns, 0, 9, 0, api.ErrNil)
				wantCount(t, r, columns, ints{1, 2}, 0, 9, 0, api.ErrNil)
				wantDistinct(t, r, columns, 0, api.ErrNil)
				want(t, name+": Match", tells(r.Match(columns, columns, 0, 9)), "")
			}
			for _, s := range stretches(3) {
				want(t, name+": All", tells(r.All(s.from, s.to)), "")
				want(t, name+": Match of no columns", tells(r.Match(nil, nil, s.from, s.to)), "")
			}
			if c := r.Copy(); c != nil {
				t.Errorf("%s: Copy is %v", name, c)
			}
		}
	}
}

// roomy is a list with spare room behind it, which must stay as it is.
func roomy(values ...int) ints {
	room := append(slices.Clone(values), 77, 78, 79)
	return room[:len(values)]
}

func wantAsItWas(t *testing.T, what string, x ints, values ...int) {
	t.Helper()
	if !slices.Equal(x[:len(values)+3], append(values, 77, 78, 79)) {
		t.Errorf("%s is now %v", what, x[:len(values)+3])
	}
}

func TestWhatIsHandedInStays(t *testing.T) {
	r := of(t, 2)
	x, columns, key := roomy(3, 1), roomy(0), roomy(3)
	for range 2 {
		r.Add(x)
		r.Add(roomy(3, 2))
		r.Place(x)
		tells(r.Match(columns, key, 0, 9))
		r.Count(columns, key, 0, 9)
		r.Distinct(columns...)
		tells(r.Match(roomy(0, 1)[:2], x, 0, 9))
		r.Copy().Add(ints{3, 3})
	}
	r.Add(roomy(5))
	r.Add(ints{4, 4})
	wantAsItWas(t, "the tuple", x, 3, 1)
	wantAsItWas(t, "the columns", columns, 0)
	wantAsItWas(t, "the key", key, 3)
}

func TestWhatIsHandedInIsNotFollowed(t *testing.T) {
	r := of(t, 2)
	x := roomy(3, 1)
	r.Add(x)
	x[0], x[1] = 8, 8
	wantPlace(t, r, ints{3, 1}, 0, true)
	wantPlace(t, r, ints{8, 8}, 0, false)
	wantAdd(t, r, x, 1, true, api.OK)
	columns, key := ints{0}, ints{3}
	walk := r.Match(columns, key, 0, 9)
	columns[0], key[0] = 1, 8
	want(t, "Match, its columns and key written over", tells(walk), "0 [3 1]")
	columns[0], key[0] = 5, -1
	want(t, "Match, gone over again", tells(walk), "0 [3 1]")
	walk = r.Match(ints{0}, key, 0, 9)
	key[0] = 3
	want(t, "Match of a key that was none", tells(walk), "")
	both, pair := ints{0, 1}, ints{3, 1}
	walk = r.Match(both, pair, 0, 9)
	for range walk {
		both[0], pair[0] = 1, 8
	}
	want(t, "Match of all columns, gone over again", tells(walk), "0 [3 1]")
	r.Distinct(columns[:0]...)
	agreesInAll(t, r, &list{arity: 2, all: tuples{{3, 1}, {8, 8}}})
}

// answers are all tuples that a relation tells.
func answers(r *Relation) tuples {
	var all tuples
	for place := range r.Len() {
		x, _ := r.At(place)
		all = append(all, x)
	}
	add := func(walk iter.Seq2[int, []int]) {
		for range 2 {
			for _, x := range walk {
				all = append(all, x)
			}
		}
	}
	add(r.All(0, 99))
	add(r.Match(nil, nil, 0, 99))
	add(r.Match(ints{0}, ints{3}, 0, 99))
	add(r.Match(ints{0, 1}, ints{3, 1}, 0, 99))
	return all
}

func TestAnswersAreNewMemory(t *testing.T) {
	r, l := of(t, 2), &list{arity: 2}
	for i := range 10 {
		r.Add(ints{3, i})
		l.add(ints{3, i})
	}
	c := r.Copy()
	told := append(answers(r), answers(c)...)
	for i, x := range told {
		for j := range x[:cap(x)] {
			x[:cap(x)][j] = 1000 + i
		}
	}
	for i, x := range told {
		for _, value := range x[:cap(x)] {
			want(t, "a value that was written", value, 1000+i)
		}
	}
	agreesInAll(t, r, l)
	agreesInAll(t, c, l)
	for place, x := range r.All(0, 99) {
		wantPlace(t, r, x, place, true)
		clear(x[:cap(x)])
		wantAt(t, r, place, l.all[place], true)
	}
	for _, x := range r.Match(ints{0}, ints{3}, 0, 99) {
		x[0] = 4
	}
	agreesInAll(t, r, l)
}

func TestWhatIsHandedInIsNotKept(t *testing.T) {
	r := of(t, 16)
	var gone []weak.Pointer[[16]int]
	hand := func(value int) ints {
		x := new([16]int)
		x[0] = value
		gone = append(gone, weak.Make(x))
		return x[:]
	}
	all := rows(16)[1<<16-1]
	r.Distinct(0)
	r.Add(hand(1))
	r.Add(hand(1))
	r.Add(hand(2))
	r.Place(hand(2))
	r.Count(all, hand(2), 0, 9)
	walk := r.Match(all, hand(2), 0, 9)
	r.Match(hand(0)[:1], hand(2)[:1], 0, 9)
	r.Distinct(hand(3)[:1]...)
	for range 3 {
		runtime.GC()
	}
	for i, p := range gone {
		if p.Value() != nil {
			t.Errorf("what was handed in at turn %d is kept", i)
		}
	}
	want(t, "what Match tells", tells(walk), fmt.Sprint(1, append(ints{2}, make(ints, 15)...)))
}

// Ways: a row's lookup is made once; what comes joins it.
func TestLookupsAreMadeOnce(t *testing.T) {
	r := example(t)
	want(t, "how many lookups there are ahead of Distinct", len(r.lookups), 1)
	r.Distinct(1)
	kept := r.lookups[row{1: true}]
	if kept == nil || len(r.lookups) != 2 {
		t.Fatalf("the lookups behind Distinct are %v", r.lookups)
	}
	for range 3 {
		r.Add(ints{5, r.Len()})
		r.Count(ints{1}, ints{3}, 0, 9)
		tells(r.Match(ints{1}, ints{3}, 0, 9))
		tells(r.Match(nil, nil, 0, 9))
		tells(r.All(0, 9))
		r.Distinct()
	}
	want(t, "the lookup behind all calls", r.lookups[row{1: true}], kept)
	want(t, "how many lookups there are behind all calls", len(r.lookups), 2)
	r.Match(ints{0}, ints{3}, 0, 9)
	want(t, "how many lookups there are behind a Match that nobody goes over", len(r.lookups), 2)
}

// What the program does must not hang on what was asked: a relation that was asked for everything at every turn tells what one tells that was asked for nothing.
func TestAskingChangesNothing(t *testing.T) {
	draw := rand.New(rand.NewSource(51))
	asked, quiet, l := of(t, 3), of(t, 3), &list{arity: 3}
	for _, x := range some(draw, 3, 15, 2) {
		agreesInAll(t, asked, l)
		place, came := l.add(x)
		wantAdd(t, asked, x, place, came, api.OK)
		wantAdd(t, quiet, x, place, came, api.OK)
	}
	agreesInAll(t, asked, l)
	agreesInAll(t, quiet, l)
}

func FuzzRelation(f *testing.F) {
	f.Add([]byte{2, 0, 3, 1, 0, 0, 1, 0, 3, 2, 1, 1, 0, 3, 1})
	f.Add([]byte{0, 0, 0, 0, 1, 2})
	f.Add([]byte{3, 0, 1, 1, 1, 1, 7, 0, 1, 1, 2, 2, 0, 2, 2, 2})
	f.Fuzz(func(t *testing.T, data []byte) {
		next := func() int {
			if len(data) == 0 {
				return 0
			}
			b := data[0]
			data = data[1:]
			return int(b)
		}
		arity := next() % 5
		r, l := of(t, arity), &list{arity: arity}
		for turn := 0; len(data) > 0 && turn < 40; turn++ {
			switch next() % 4 {
			case 0, 1:
				x := make(ints, arity)
				for c := range x {
					x[c] = next() % 5
				}
				place, came := l.add(x)
				wantAdd(t, r, x, place, came, api.OK)
			case 2:
				agreesOn(t, r, l, rows(arity)[next()%(1<<arity)])
			case 3:
				c := r.Copy()
				c.Add(slices.Repeat(ints{9}, arity))
				if next()%2 == 0 {
					r = r.Copy()
				}
			}
		}
		agreesInAll(t, r, l)
	})
}
