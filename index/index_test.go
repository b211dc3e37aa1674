package index

import (
	"fmt"
	"iter"
	"math"
	"math/rand"
	"runtime"
	"slices"
	"strings"
	"testing"
	"weak"

	"inkling/api"
)

func self(k int) uint64 { return uint64(k) }

func equal(a, b int) bool { return a == b }

// hashes are of all sorts: spread, crowded, far above any size, and with homes at the end so that a search goes on from 0.
func hashes() map[string]func(int) uint64 {
	return map[string]func(int) uint64{
		"the number itself":   self,
		"all alike":           func(int) uint64 { return 3 },
		"all the last place":  func(int) uint64 { return math.MaxUint64 },
		"the last places":     func(k int) uint64 { return math.MaxUint64 - uint64(k&1) },
		"backward":            func(k int) uint64 { return -uint64(k) },
		"few homes":           func(k int) uint64 { return uint64(k % 3) },
		"high bits alone":     func(k int) uint64 { return uint64(k) << 40 },
		"far above the size":  func(k int) uint64 { return 1<<63 + uint64(k)*5 },
		"spread by a product": func(k int) uint64 { return uint64(k) * 0x9e3779b97f4a7c15 },
	}
}

func made[K, V any](t *testing.T, hash func(K) uint64, same func(a, b K) bool) *Table[K, V] {
	t.Helper()
	x, e := New[K, V](hash, same)
	if x == nil || e != api.OK {
		t.Fatalf("New is %v, %v", x, e)
	}
	return x
}

func plainly(t *testing.T) *Table[int, string] {
	t.Helper()
	return made[int, string](t, self, equal)
}

type pair[A, B any] struct {
	first  A
	second B
}

func gather[A, B any](told iter.Seq2[A, B]) []pair[A, B] {
	var l []pair[A, B]
	for a, b := range told {
		l = append(l, pair[A, B]{a, b})
	}
	return l
}

// tells says what All or Layout tells, as one line.
func tells[A, B any](told iter.Seq2[A, B]) string {
	var l []string
	for a, b := range told {
		l = append(l, fmt.Sprint(a, " ", b))
	}
	return strings.Join(l, ", ")
}

func want[T comparable](t *testing.T, call string, got, wanted T) {
	t.Helper()
	if got != wanted {
		t.Errorf("%s is %v; want %v", call, got, wanted)
	}
}

func wantPut(t *testing.T, x *Table[int, string], key int, value, had string, there bool) {
	t.Helper()
	if v, ok, e := x.Put(key, value); v != had || ok != there || e != api.OK {
		t.Errorf("Put(%d, %q) is %q, %v, %v; want %q, %v, OK", key, value, v, ok, e, had, there)
	}
}

func wantGet(t *testing.T, x *Table[int, string], key int, value string, there bool) {
	t.Helper()
	if v, ok := x.Get(key); v != value || ok != there {
		t.Errorf("Get(%d) is %q, %v; want %q, %v", key, v, ok, value, there)
	}
}

func wantTake(t *testing.T, x *Table[int, string], key int, value string, there bool) {
	t.Helper()
	if v, ok := x.Take(key); v != value || ok != there {
		t.Errorf("Take(%d) is %q, %v; want %q, %v", key, v, ok, value, there)
	}
}

func wantPlace(t *testing.T, x *Table[int, string], key, place int, there bool) {
	t.Helper()
	if p, ok := x.Place(key); p != place || ok != there {
		t.Errorf("Place(%d) is %d, %v; want %d, %v", key, p, ok, place, there)
	}
}

// list is a plain list of pairs that is looked through, and a size: what a table must agree with.
type list struct {
	hash  func(int) uint64
	pairs []pair[int, string]
	size  int
}

func (l *list) find(key int) int {
	return slices.IndexFunc(l.pairs, func(p pair[int, string]) bool { return p.first == key })
}

func (l *list) put(key int, value string) (string, bool) {
	if i := l.find(key); i >= 0 {
		had := l.pairs[i].second
		l.pairs[i].second = value
		return had, true
	}
	if 4*(len(l.pairs)+1) > 3*l.size {
		l.size *= 2
	}
	l.pairs = append(l.pairs, pair[int, string]{key, value})
	return "", false
}

func (l *list) take(key int) (string, bool) {
	i := l.find(key)
	if i < 0 {
		return "", false
	}
	had := l.pairs[i].second
	l.pairs = slices.Delete(l.pairs, i, i+1)
	return had, true
}

// layout lays the keys by the chapter's words: at each place one more than the key's number in the list, or 0.
func (l *list) layout() []int {
	places := make([]int, l.size)
	for i, p := range l.pairs {
		place := int(l.hash(p.first) % uint64(l.size))
		for places[place] != 0 {
			place = (place + 1) % l.size
		}
		places[place] = i + 1
	}
	return places
}

// agrees holds a table against a list by every call that tells something, of the keys that are there and of those that are asked for.
func agrees(t *testing.T, x *Table[int, string], l *list, asked ...int) {
	t.Helper()
	want(t, "Len", x.Len(), len(l.pairs))
	want(t, "Size", x.Size(), l.size)
	if told := gather(x.All()); !slices.Equal(told, l.pairs) {
		t.Errorf("All tells %v; want %v", told, l.pairs)
	}
	places := l.layout()
	var laid []pair[int, int]
	for place, n := range places {
		if n != 0 {
			laid = append(laid, pair[int, int]{place, l.pairs[n-1].first})
		}
	}
	if told := gather(x.Layout()); !slices.Equal(told, laid) {
		t.Errorf("Layout tells %v; want %v", told, laid)
	}
	for _, p := range l.pairs {
		asked = append(asked, p.first)
	}
	for _, key := range asked {
		agreesOn(t, x, l, places, key)
	}
}

func agreesOn(t *testing.T, x *Table[int, string], l *list, places []int, key int) {
	t.Helper()
	place := int(l.hash(key) % uint64(l.size))
	probes := 1
	for places[place] != 0 && l.pairs[places[place]-1].first != key {
		place = (place + 1) % l.size
		probes++
	}
	want(t, fmt.Sprint("Probes of ", key), x.Probes(key), probes)
	if probes > len(l.pairs)+1 {
		t.Errorf("Probes(%d) is %d of %d keys", key, probes, len(l.pairs))
	}
	if i := l.find(key); i >= 0 {
		wantPlace(t, x, key, place, true)
		wantGet(t, x, key, l.pairs[i].second, true)
	} else {
		wantPlace(t, x, key, 0, false)
		wantGet(t, x, key, "", false)
	}
}

// P3.1

func TestNewWithoutFunctions(t *testing.T) {
	refused := func(name string, hash func(int) uint64, same func(a, b int) bool) {
		if x, e := New[int, string](hash, same); x != nil || e != api.ErrNil {
			t.Errorf("New without %s is %v, %v; want nil, ErrNil", name, x, e)
		}
	}
	refused("a hash", nil, equal)
	refused("a same", self, nil)
	refused("both", nil, nil)
}

func TestNewHasNoKeys(t *testing.T) {
	x := plainly(t)
	want(t, "Len", x.Len(), 0)
	want(t, "Size", x.Size(), 8)
	agrees(t, x, &list{hash: self, size: 8}, 0, 1, -1, 7, 8, math.MinInt, math.MaxInt)
	wantTake(t, x, 0, "", false)
}

func TestTablesAreApart(t *testing.T) {
	x, y := plainly(t), plainly(t)
	x.Put(1, "a")
	want(t, "Len of the other", y.Len(), 0)
	y.Put(2, "b")
	want(t, "All", tells(x.All()), "1 a")
	want(t, "All of the other", tells(y.All()), "2 b")
}

// The chapter's examples, in one go.
func TestExamples(t *testing.T) {
	x := plainly(t)
	wantPut(t, x, 1, "a", "", false)
	wantPut(t, x, 9, "b", "", false)
	wantPut(t, x, 17, "c", "", false)
	want(t, "Len", x.Len(), 3)
	want(t, "Size", x.Size(), 8)

	wantPlace(t, x, 1, 1, true)
	wantPlace(t, x, 9, 2, true)
	wantPlace(t, x, 17, 3, true)
	wantPlace(t, x, 2, 0, false)
	want(t, "Probes(17)", x.Probes(17), 3)
	want(t, "Probes(2)", x.Probes(2), 3)
	want(t, "Probes(25)", x.Probes(25), 4)
	want(t, "Probes(0)", x.Probes(0), 1)

	wantPut(t, x, 9, "d", "b", true)
	wantGet(t, x, 9, "d", true)
	want(t, "All", tells(x.All()), "1 a, 9 d, 17 c")

	wantTake(t, x, 1, "a", true)
	wantPlace(t, x, 9, 1, true)
	wantPlace(t, x, 17, 2, true)
	want(t, "Layout", tells(x.Layout()), "1 9, 2 17")

	wantPut(t, x, 1, "e", "", false)
	want(t, "All", tells(x.All()), "9 d, 17 c, 1 e")
	for k := 2; k <= 4; k++ {
		wantPut(t, x, k, "", "", false)
	}
	want(t, "Len", x.Len(), 6)
	want(t, "Size", x.Size(), 8)
	wantPut(t, x, 5, "f", "", false)
	want(t, "Size", x.Size(), 16)
	want(t, "Layout", tells(x.Layout()), "1 17, 2 1, 3 2, 4 3, 5 4, 6 5, 9 9")
}

// P3.2

func TestPutAgain(t *testing.T) {
	x := plainly(t)
	wantPut(t, x, 5, "", "", false)
	wantPut(t, x, 5, "a", "", true)
	wantPut(t, x, 5, "b", "a", true)
	wantPut(t, x, 5, "", "b", true)
	wantPut(t, x, 6, "c", "", false)
	wantPut(t, x, 5, "d", "", true)
	want(t, "All", tells(x.All()), "5 d, 6 c")
	want(t, "Len", x.Len(), 2)
	wantGet(t, x, 5, "d", true)
}

// folded hashes words whatever their letters' case is.
func folded(word string) uint64 { return uint64(len(word)) }

func TestPutOfKeysThatAreTheSame(t *testing.T) {
	x := made[string, int](t, folded, strings.EqualFold)
	x.Put("Ab", 1)
	x.Put("cD", 2)
	if v, had, e := x.Put("aB", 3); v != 1 || !had || e != api.OK {
		t.Errorf("Put of a key that is the same is %d, %v, %v; want 1, true, OK", v, had, e)
	}
	want(t, "All", tells(x.All()), "Ab 3, cD 2")
	want(t, "Layout", tells(x.Layout()), "2 Ab, 3 cD")
	if v, ok := x.Get("AB"); v != 3 || !ok {
		t.Errorf("Get of a key that is the same is %d, %v", v, ok)
	}
	if p, ok := x.Place("ab"); p != 2 || !ok {
		t.Errorf("Place of a key that is the same is %d, %v", p, ok)
	}
	want(t, "Probes of a key that is the same", x.Probes("CD"), 2)
	for _, word := range strings.Fields("e f g h i j k l m n o p q") {
		x.Put(word, 0)
	}
	x.Put("CD", 4)
	want(t, "what the table's clone tells first", tells(x.Clone().All())[:10], "Ab 3, cD 4")
	if v, ok := x.Take("AB"); v != 3 || !ok {
		t.Errorf("Take of a key that is the same is %d, %v", v, ok)
	}
	x.Put("AB", 5)
	told := gather(x.All())
	want(t, "the first key", told[0], pair[string, int]{"cD", 4})
	want(t, "the last key", told[len(told)-1], pair[string, int]{"AB", 5})
}

func TestSizeDoublesJustPastTheBound(t *testing.T) {
	x := plainly(t)
	k := 0
	for size := 8; size <= 1<<14; size *= 2 {
		for ; k < size/4*3; k++ {
			x.Put(k, "")
			want(t, fmt.Sprintf("Size behind %d keys", k+1), x.Size(), size)
		}
		wantPut(t, x, k-1, "again", "", true)
		wantPut(t, x, 0, "", "", true)
		want(t, "Size behind a Put, at the bound, of a key that is there", x.Size(), size)
		x.Take(k - 1)
		x.Put(k-1, "")
		want(t, "Size behind a Take and a Put at the bound", x.Size(), size)
		want(t, "Len at the bound", x.Len(), k)
		x.Put(k, "")
		k++
		want(t, "Size just past the bound", x.Size(), 2*size)
	}
}

func TestSizeGoesByTheKeysThatAreThere(t *testing.T) {
	for name, hash := range hashes() {
		x := made[int, string](t, hash, equal)
		for k := range 1000 {
			x.Put(k, "")
			if k >= 6 {
				wantTake(t, x, k-6, "", true)
				x.Put(k-6, "")
				x.Take(k - 5)
				x.Put(k-5, "")
				x.Take(k - 6)
			}
			if k < 6 {
				want(t, name+": Size of six keys and fewer", x.Size(), 8)
			} else {
				want(t, name+": Size behind the seventh key", x.Size(), 16)
			}
		}
		want(t, name+": Len", x.Len(), 6)
	}
}

// P3.3

func TestGet(t *testing.T) {
	x := plainly(t)
	x.Put(3, "a")
	x.Put(11, "")
	wantGet(t, x, 3, "a", true)
	wantGet(t, x, 11, "", true)
	for _, k := range []int{0, 4, 19, -5, math.MinInt, math.MaxInt} {
		wantGet(t, x, k, "", false)
	}
	want(t, "All behind Get", tells(x.All()), "3 a, 11 ")
}

func TestTake(t *testing.T) {
	x := plainly(t)
	x.Put(3, "a")
	x.Put(11, "b")
	x.Put(4, "c")
	for _, k := range []int{0, 5, 19, -5, math.MinInt, math.MaxInt} {
		wantTake(t, x, k, "", false)
	}
	want(t, "All behind a Take of what is not there", tells(x.All()), "3 a, 11 b, 4 c")
	wantTake(t, x, 3, "a", true)
	wantTake(t, x, 3, "", false)
	wantGet(t, x, 3, "", false)
	wantPlace(t, x, 3, 0, false)
	want(t, "Len behind Take", x.Len(), 2)
	want(t, "All behind Take", tells(x.All()), "11 b, 4 c")
	want(t, "Layout behind Take", tells(x.Layout()), "3 11, 4 4")
	wantPut(t, x, 3, "d", "", false)
	want(t, "All of what is put again", tells(x.All()), "11 b, 4 c, 3 d")
	want(t, "Layout of what is put again", tells(x.Layout()), "3 11, 4 4, 5 3")
}

func TestTakeLeavesTheSize(t *testing.T) {
	for name, hash := range hashes() {
		x := made[int, string](t, hash, equal)
		for k := range 100 {
			x.Put(k, fmt.Sprint(k))
		}
		want(t, name+": Size", x.Size(), 256)
		for i := range 100 {
			k := i * 37 % 100
			wantTake(t, x, k, fmt.Sprint(k), true)
			want(t, name+": Len behind Take", x.Len(), 99-i)
			want(t, name+": Size behind Take", x.Size(), 256)
		}
		agrees(t, x, &list{hash: hash, size: 256}, 0, 1, 99, 100)
		wantPut(t, x, 7, "a", "", false)
		agrees(t, x, &list{hash: hash, pairs: []pair[int, string]{{7, "a"}}, size: 256}, 0, 1, 99, 100)
	}
}

// P3.4

func TestPlacesGoOnFromZero(t *testing.T) {
	x := plainly(t)
	for _, k := range []int{7, 15, -1, 0, 14} {
		x.Put(k, "")
	}
	want(t, "Layout", tells(x.Layout()), "0 15, 1 -1, 2 0, 6 14, 7 7")
	want(t, "Probes(-1)", x.Probes(-1), 3)
	want(t, "Probes(0)", x.Probes(0), 3)
	want(t, "Probes of what is not there, from the last place on", x.Probes(23), 5)
	want(t, "Probes of what is not there, from the place before it", x.Probes(22), 6)
	wantTake(t, x, 7, "", true)
	want(t, "Layout behind Take", tells(x.Layout()), "0 -1, 1 0, 6 14, 7 15")
}

func TestHashesOfAllSorts(t *testing.T) {
	for name, hash := range hashes() {
		t.Run(name, func(t *testing.T) {
			x := made[int, string](t, hash, equal)
			l := &list{hash: hash, size: 8}
			for k := range 60 {
				x.Put(k, fmt.Sprint(k))
				l.put(k, fmt.Sprint(k))
				agrees(t, x, l, -1, 61, 1<<40)
			}
		})
	}
}

func TestHomesOfGreatHashes(t *testing.T) {
	for _, h := range []uint64{8, 1 << 31, 1 << 32, 1 << 62, 1 << 63, math.MaxUint64 - 7} {
		x := made[int, string](t, func(int) uint64 { return h }, equal)
		x.Put(1, "")
		wantPlace(t, x, 1, 0, true)
		y := made[int, string](t, func(int) uint64 { return h + 5 }, equal)
		y.Put(1, "")
		wantPlace(t, y, 1, 5, true)
	}
}

// P3.5

func TestAllAndLayoutBeginWhenTheyAreGoneOver(t *testing.T) {
	x := plainly(t)
	all, layout := x.All(), x.Layout()
	want(t, "All of nothing", tells(all), "")
	want(t, "Layout of nothing", tells(layout), "")
	x.Put(9, "a")
	x.Put(1, "b")
	want(t, "All", tells(all), "9 a, 1 b")
	want(t, "Layout", tells(layout), "1 9, 2 1")
	x.Put(9, "c")
	x.Put(0, "d")
	want(t, "All anew", tells(all), "9 c, 1 b, 0 d")
	want(t, "Layout anew", tells(layout), "0 0, 1 9, 2 1")
	x.Take(9)
	want(t, "All behind Take", tells(all), "1 b, 0 d")
	want(t, "Layout behind Take", tells(layout), "0 0, 1 1")
	for k := 2; k < 8; k++ {
		x.Put(k, "")
	}
	want(t, "All behind doubling", tells(all), "1 b, 0 d, 2 , 3 , 4 , 5 , 6 , 7 ")
	want(t, "Layout behind doubling", tells(layout), "0 0, 1 1, 2 2, 3 3, 4 4, 5 5, 6 6, 7 7")
}

func TestWalksAreLeftEarly(t *testing.T) {
	x := plainly(t)
	for k := range 5 {
		x.Put(4-k, "")
	}
	all, layout := x.All(), x.Layout()
	for leave := range 5 {
		turns := 0
		all(func(key int, _ string) bool {
			want(t, "a key that All tells", key, 4-turns)
			turns++
			return turns <= leave
		})
		want(t, "how many All tells", turns, leave+1)
		turns = 0
		layout(func(place, key int) bool {
			want(t, "a key that Layout tells", key, turns)
			want(t, "a place that Layout tells", place, turns)
			turns++
			return turns <= leave
		})
		want(t, "how many Layout tells", turns, leave+1)
	}
	want(t, "All, gone over again", tells(all), "4 , 3 , 2 , 1 , 0 ")
	want(t, "Layout, gone over again", tells(layout), "0 0, 1 1, 2 2, 3 3, 4 4")
	want(t, "Len behind walks that were left", x.Len(), 5)
}

// changes are what may be done to a table while it is gone over.
func changes() map[string]func(x *Table[int, string], turn int) {
	return map[string]func(x *Table[int, string], turn int){
		"values":       func(x *Table[int, string], turn int) { x.Put(turn, "new"); x.Put(4-turn, "new") },
		"keys come":    func(x *Table[int, string], turn int) { x.Put(100+turn, "new") },
		"many come":    func(x *Table[int, string], turn int) { fill(x, 100*turn, 50) },
		"keys go":      func(x *Table[int, string], turn int) { x.Take(turn) },
		"later ones":   func(x *Table[int, string], turn int) { x.Take(4 - turn) },
		"all go":       func(x *Table[int, string], turn int) { empty(x) },
		"go and come":  func(x *Table[int, string], turn int) { x.Take(turn); x.Put(turn, "new") },
		"all anew":     func(x *Table[int, string], turn int) { empty(x); fill(x, 0, 5) },
		"all of a lot": func(x *Table[int, string], turn int) { fill(x, 0, 100); empty(x) },
	}
}

func fill(x *Table[int, string], from, count int) {
	for k := range count {
		x.Put(from+count-1-k, "new")
	}
}

func empty(x *Table[int, string]) {
	for k := range 1000 {
		x.Take(k)
	}
}

// filled has the keys 0 to 4, whose homes are one place.
func filled(t *testing.T) *Table[int, string] {
	t.Helper()
	x := made[int, string](t, func(int) uint64 { return 6 }, equal)
	for k := range 5 {
		x.Put(k, "old")
	}
	return x
}

func TestWalksTellWhatThereWas(t *testing.T) {
	for name, change := range changes() {
		x, turn := filled(t), 0
		for key, value := range x.All() {
			if key != turn || value != "old" {
				t.Errorf("%s: All tells %d %s at turn %d", name, key, value, turn)
			}
			change(x, turn)
			turn++
		}
		want(t, name+": how many All tells", turn, 5)
		x, turn = filled(t), 0
		for place, key := range x.Layout() {
			if p := []int{0, 1, 2, 6, 7}[turn]; place != p || key != (p+2)%8 {
				t.Errorf("%s: Layout tells %d at the place %d at turn %d", name, key, place, turn)
			}
			change(x, turn)
			turn++
		}
		want(t, name+": how many Layout tells", turn, 5)
		y := filled(t)
		for turn := range 5 {
			change(y, turn)
		}
		want(t, name+": All behind a walk", tells(x.All()), tells(y.All()))
		want(t, name+": Layout behind a walk", tells(x.Layout()), tells(y.Layout()))
	}
}

func TestWalksWithinWalks(t *testing.T) {
	x := plainly(t)
	x.Put(1, "a")
	x.Put(2, "b")
	all := x.All()
	var told []string
	for outer := range all {
		for inner := range all {
			told = append(told, fmt.Sprint(outer, inner))
			x.Put(10*outer+inner, "")
			x.Take(1)
		}
	}
	want(t, "what is told", strings.Join(told, ", "), "1 1, 1 2, 2 2, 2 11, 2 12")
}

// P3.6

func TestCloneIsTheSame(t *testing.T) {
	for name, hash := range hashes() {
		t.Run(name, func(t *testing.T) {
			x := made[int, string](t, hash, equal)
			l := &list{hash: hash, size: 8}
			for k := range 30 {
				x.Put(k, fmt.Sprint(k))
				l.put(k, fmt.Sprint(k))
			}
			for k := range 12 {
				x.Take(k * 2)
				l.take(k * 2)
			}
			x.Put(4, "again")
			l.put(4, "again")
			agrees(t, x.Clone(), l, 0, 2, 30)
			agrees(t, x.Clone().Clone(), l, 0, 2, 30)
			agrees(t, x, l, 0, 2, 30)
		})
	}
}

func TestCloneGoesOnApart(t *testing.T) {
	for name, change := range changes() {
		x := filled(t)
		x.Put(5, "")
		x.Take(5)
		x.Take(2)
		before, laid := tells(x.All()), tells(x.Layout())
		c := x.Clone()
		change(c, 1)
		want(t, name+": All of the first", tells(x.All()), before)
		want(t, name+": Layout of the first", tells(x.Layout()), laid)
		want(t, name+": Size of the first", x.Size(), 8)
		behind := tells(c.All())
		change(x, 3)
		want(t, name+": All of the clone", tells(c.All()), behind)
		c = x.Clone()
		behind, laid = tells(c.All()), tells(c.Layout())
		change(x, 2)
		x.Put(77, "")
		want(t, name+": All of another clone", tells(c.All()), behind)
		want(t, name+": Layout of another clone", tells(c.Layout()), laid)
		wantGet(t, c, 77, "", false)
	}
}

func TestClonesAtEveryLength(t *testing.T) {
	x := plainly(t)
	for n := range 70 {
		l := &list{hash: self, size: x.Size(), pairs: gather(x.All())}
		c, d := x.Clone(), x.Clone()
		c.Put(-1, "c")
		d.Put(-2, "d")
		agrees(t, x, l)
		want(t, "what the clone has last", gather(c.All())[n], pair[int, string]{-1, "c"})
		want(t, "what the other clone has last", gather(d.All())[n], pair[int, string]{-2, "d"})
		wantGet(t, c, -2, "", false)
		wantGet(t, d, -1, "", false)
		x.Put(n, fmt.Sprint(n))
		wantGet(t, c, n, "", false)
	}
}

// P3.7

// noted is a key that leads to memory by which it is neither hashed nor compared.
type noted struct {
	id   int
	note []string
}

func TestKeysAndValuesAreNotCopied(t *testing.T) {
	x := made[noted, []int](t, func(k noted) uint64 { return uint64(k.id) }, func(a, b noted) bool { return a.id == b.id })
	notes, numbers := []string{"first", "spare"}, []int{1, 2, 99}
	x.Put(noted{1, notes[:1]}, numbers[:2])
	x.Put(noted{1, []string{"second"}}, numbers[:2])
	for id := 2; id < 20; id++ {
		x.Put(noted{id, nil}, nil)
	}
	x.Take(noted{id: 2})
	notes[0], numbers[1] = "later", 7
	check := func(call string, key noted, value []int) {
		if &key.note[0] != &notes[0] || len(key.note) != 1 || cap(key.note) != 2 {
			t.Errorf("%s tells the key %v, which is not the one that was put first", call, key)
		}
		if &value[0] != &numbers[0] || len(value) != 2 || cap(value) != 3 {
			t.Errorf("%s tells the value %v, which is not the one that was put", call, value)
		}
	}
	for _, y := range []*Table[noted, []int]{x, x.Clone()} {
		for key, value := range y.All() {
			check("All", key, value)
			break
		}
		for _, key := range y.Layout() {
			check("Layout", key, numbers[:2])
			break
		}
		got, _ := y.Get(noted{id: 1})
		check("Get", noted{1, notes[:1]}, got)
		had, _, _ := y.Put(noted{id: 1}, nil)
		check("Put", noted{1, notes[:1]}, had)
		y.Put(noted{id: 1}, numbers[:2])
		taken, _ := y.Take(noted{id: 1})
		check("Take", noted{1, notes[:1]}, taken)
	}
	if !slices.Equal(notes, []string{"later", "spare"}) || !slices.Equal(numbers, []int{1, 7, 99}) {
		t.Errorf("what was handed in is now %q, %v", notes, numbers)
	}
}

func TestKeysAndValuesOfAnyType(t *testing.T) {
	type thing *int
	a, b := new(int), new(int)
	x := made[thing, func() int](t, func(thing) uint64 { return 0 }, func(a, b thing) bool { return a == b })
	x.Put(a, func() int { return 1 })
	x.Put(b, nil)
	x.Put(nil, func() int { return 3 })
	if f, ok := x.Get(a); !ok || f() != 1 {
		t.Error("a function that was put is not told")
	}
	if f, ok := x.Get(b); !ok || f != nil {
		t.Error("a nil function that was put is not told")
	}
	if f, ok := x.Get(nil); !ok || f() != 3 {
		t.Error("what was put at a nil key is not told")
	}
	y := made[any, error](t, func(any) uint64 { return 1 }, func(a, b any) bool { return a == b })
	y.Put(nil, nil)
	y.Put("", api.ErrArg)
	if v, ok := y.Get(nil); v != nil || !ok {
		t.Errorf("Get(nil) is %v, %v", v, ok)
	}
	if v, ok := y.Take(""); v != api.ErrArg || !ok {
		t.Errorf("Take of an empty text is %v, %v", v, ok)
	}
	z := made[struct{}, struct{}](t, func(struct{}) uint64 { return math.MaxUint64 }, func(a, b struct{}) bool { return true })
	z.Put(struct{}{}, struct{}{})
	z.Put(struct{}{}, struct{}{})
	want(t, "Len of keys that are all the same", z.Len(), 1)
}

// block is great enough to have memory of its own.
type block struct {
	next *block
	room [100]int
}

// blocks is a table of blocks by what they hold.
func blocks(t *testing.T) *Table[*block, *block] {
	return made[*block, *block](t, func(b *block) uint64 { return uint64(b.room[0]) }, func(a, b *block) bool { return a.room == b.room })
}

func wantGone(t *testing.T, gone []weak.Pointer[block]) {
	t.Helper()
	for range 3 {
		runtime.GC()
	}
	for i, p := range gone {
		if p.Value() != nil {
			t.Errorf("block %d is kept", i)
		}
	}
}

func TestWhatIsTakenIsNotKept(t *testing.T) {
	x := blocks(t)
	var gone []weak.Pointer[block]
	for n := range 40 {
		key, value, other := &block{}, &block{}, &block{}
		key.room[0] = n
		x.Put(key, value)
		x.Put(&block{room: key.room}, other)
		gone = append(gone, weak.Make(value))
		if n%4 != 0 {
			gone = append(gone, weak.Make(key), weak.Make(other))
			x.Take(key)
		}
	}
	wantGone(t, gone)
	want(t, "Len", x.Len(), 10)
	runtime.KeepAlive(x)
}

func TestWhatIsTakenAfterOthersIsNotKept(t *testing.T) {
	for left := range 40 {
		x := blocks(t)
		var gone []weak.Pointer[block]
		for n := range 40 {
			key, value := &block{}, &block{}
			key.room[0] = n
			x.Put(key, value)
			if n < 40-left {
				gone = append(gone, weak.Make(key), weak.Make(value))
			}
		}
		for n := range 40 - left {
			key := &block{}
			key.room[0] = n
			x.Take(key)
		}
		wantGone(t, gone)
		want(t, "Len", x.Len(), left)
		runtime.KeepAlive(x)
	}
}

// P3.8

// act does to a table and to a list what a number says, and holds their answers against one another.
func act(t *testing.T, x *Table[int, string], l *list, what, key int, value string) {
	t.Helper()
	if what%3 == 0 {
		had, there := l.take(key)
		wantTake(t, x, key, had, there)
		return
	}
	had, there := l.put(key, value)
	wantPut(t, x, key, value, had, there)
}

func TestTableIsAPlainList(t *testing.T) {
	for name, hash := range hashes() {
		t.Run(name, func(t *testing.T) {
			for _, keys := range []int{4, 9, 14, 40, 200} {
				r := rand.New(rand.NewSource(int64(keys)))
				x := made[int, string](t, hash, equal)
				l := &list{hash: hash, size: 8}
				for n := range 600 {
					act(t, x, l, r.Intn(6), r.Intn(keys)-2, fmt.Sprint(n))
					if n%7 == 0 {
						agrees(t, x, l, -3, 0, keys)
					}
					if n%100 == 99 {
						x = x.Clone()
					}
				}
			}
		})
	}
}

func TestEveryLayoutOfFourKeysBehindATake(t *testing.T) {
	for homes := range 8 * 8 * 8 * 8 {
		home := func(k int) uint64 { return uint64(homes >> (3 * k) & 7) }
		for gone := range 4 {
			x := made[int, string](t, home, equal)
			l := &list{hash: home, size: 8}
			for k := range 4 {
				x.Put(k, "")
				if k != gone {
					l.put(k, "")
				}
			}
			x.Take(gone)
			agrees(t, x, l, gone)
		}
		if t.Failed() {
			t.Fatalf("the homes are %o", homes)
		}
	}
}

func TestTakesOutOfFullTables(t *testing.T) {
	r := rand.New(rand.NewSource(3))
	for _, size := range []int{8, 16, 32} {
		for range 300 {
			homes := make([]uint64, size/4*3)
			for k := range homes {
				homes[k] = r.Uint64() >> r.Intn(64)
			}
			hash := func(k int) uint64 { return homes[k] }
			x := made[int, string](t, hash, equal)
			l := &list{hash: hash, size: 8}
			for k := range homes {
				x.Put(k, "")
				l.put(k, "")
			}
			want(t, "Size", x.Size(), size)
			for _, k := range r.Perm(len(homes)) {
				x.Take(k)
				l.take(k)
				agrees(t, x, l, k)
			}
		}
	}
}

func TestOneLayoutByManyWays(t *testing.T) {
	for name, hash := range hashes() {
		t.Run(name, func(t *testing.T) {
			for _, way := range ways(t, hash) {
				want(t, "Size", way.Size(), 32)
				l := &list{hash: hash, size: 32}
				for _, k := range []int{9, 3, 41, 0, 17, 8, 33} {
					l.put(k, "v")
				}
				agrees(t, way, l, 1, 2, 100)
			}
		})
	}
}

// ways are tables that came to the same seven keys, order and size, each in another way.
func ways(t *testing.T, hash func(int) uint64) []*Table[int, string] {
	keys := []int{9, 3, 41, 0, 17, 8, 33}
	var all []*Table[int, string]
	way := func(lead func(x *Table[int, string])) {
		x := made[int, string](t, hash, equal)
		lead(x)
		all = append(all, x, x.Clone())
	}
	put := func(x *Table[int, string], value string, keys ...int) {
		for _, k := range keys {
			x.Put(k, value)
		}
	}
	way(func(x *Table[int, string]) { // others came first, and all of them went
		fill(x, 100, 20)
		empty(x)
		put(x, "v", keys...)
	})
	way(func(x *Table[int, string]) { // others came between, and went in another order
		for i, k := range keys {
			fill(x, 100*i+100, 2)
			put(x, "v", k)
		}
		for k := 999; k >= 100; k-- {
			x.Take(k)
		}
	})
	way(func(x *Table[int, string]) { // others came last; the values came later
		put(x, "w", keys...)
		fill(x, 100, 10)
		put(x, "v", keys[3], keys[0])
		for k := 100; k < 110; k++ {
			x.Take(k)
		}
		put(x, "v", keys...)
	})
	way(func(x *Table[int, string]) { // they came in another order, and each once more
		put(x, "w", 33, 8, 17, 0, 41, 3, 9)
		fill(x, 100, 10)
		for _, k := range keys {
			x.Take(k)
			put(x, "v", k)
		}
		for k := 100; k < 110; k++ {
			x.Take(k)
		}
	})
	return all
}

func TestAtMostThreePlacesOfFour(t *testing.T) {
	for name, hash := range hashes() {
		x := made[int, string](t, hash, equal)
		for k := range 400 {
			x.Put(k, "")
			if 4*x.Len() > 3*x.Size() {
				t.Fatalf("%s: %d keys lie in %d places", name, x.Len(), x.Size())
			}
			taken := map[int]int{}
			for place := range x.Layout() {
				taken[place]++
			}
			want(t, name+": how many places are taken", len(taken), x.Len())
			place, _ := x.Place(k)
			for p := int(hash(k) % uint64(x.Size())); p != place; p = (p + 1) % x.Size() {
				if taken[p] == 0 {
					t.Fatalf("%s: the place %d ahead of that of %d is empty", name, p, k)
				}
			}
		}
	}
}

func TestALongLife(t *testing.T) {
	x := plainly(t)
	for k := range 200000 {
		x.Put(k, "")
		if k >= 3 {
			x.Take(k - 3)
		}
	}
	want(t, "Size", x.Size(), 8)
	want(t, "All", tells(x.All()), "199997 , 199998 , 199999 ")
	want(t, "Layout", tells(x.Layout()), "5 199997, 6 199998, 7 199999")
	if cap(x.came) > 100 {
		t.Errorf("there is room for %d keys where three are", cap(x.came))
	}
}

func TestManyKeys(t *testing.T) {
	for _, name := range []string{"the number itself", "spread by a product", "far above the size"} {
		hash := hashes()[name]
		x := made[int, int](t, hash, equal)
		const many = 100000
		for k := range many {
			x.Put(k, -k)
		}
		want(t, name+": Size", x.Size(), 1<<18)
		for k := 0; k < many; k += 2 {
			if v, ok := x.Take(k); v != -k || !ok {
				t.Fatalf("%s: Take(%d) is %d, %v", name, k, v, ok)
			}
		}
		want(t, name+": Len", x.Len(), many/2)
		for k := range many {
			if v, ok := x.Get(k); ok != (k%2 == 1) || ok && v != -k {
				t.Fatalf("%s: Get(%d) is %d, %v", name, k, v, ok)
			}
		}
		next := 1
		for k := range x.All() {
			want(t, name+": the next key", k, next)
			next += 2
		}
	}
}

// A table that is not there.

func TestTableThatIsNotThere(t *testing.T) {
	refused, _ := New[int, string](nil, nil)
	for name, x := range map[string]*Table[int, string]{"nil": nil, "zero": {}, "refused": refused} {
		t.Run(name, func(t *testing.T) {
			for range 2 {
				for _, k := range []int{0, 1, -1, math.MinInt} {
					if v, had, e := x.Put(k, "a"); v != "" || had || e != api.ErrNil {
						t.Errorf("Put is %q, %v, %v; want none, false, ErrNil", v, had, e)
					}
					wantGet(t, x, k, "", false)
					wantTake(t, x, k, "", false)
					wantPlace(t, x, k, 0, false)
					want(t, "Probes", x.Probes(k), 0)
				}
				want(t, "Len", x.Len(), 0)
				want(t, "Size", x.Size(), 0)
				if x.Clone() != nil {
					t.Error("Clone answers a table")
				}
				if x.All() == nil || x.Layout() == nil {
					t.Fatal("an iterator is not there")
				}
				want(t, "All", tells(x.All()), "")
				want(t, "Layout", tells(x.Layout()), "")
			}
		})
	}
}

// FuzzTable holds a table against a plain list: each byte puts or takes one of few keys, whose hashes the first byte says.
func FuzzTable(f *testing.F) {
	f.Add([]byte{})
	f.Add([]byte{255, 1, 9, 17, 2, 3, 4, 5, 6})
	f.Add([]byte("some keys come, some go, some come again"))
	f.Fuzz(func(t *testing.T, bytes []byte) {
		var turn uint64
		if len(bytes) > 0 {
			turn = uint64(bytes[0])
		}
		hash := func(k int) uint64 { return uint64(k)*turn ^ turn>>3 }
		x := made[int, string](t, hash, equal)
		l := &list{hash: hash, size: 8}
		for n, b := range bytes {
			act(t, x, l, int(b>>6), int(b&63), fmt.Sprint(n))
		}
		agrees(t, x, l, 0, 1, 2, 64)
		agrees(t, x.Clone(), l)
	})
}
