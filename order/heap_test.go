package order

import (
	"cmp"
	"fmt"
	"math/rand"
	"runtime"
	"slices"
	"testing"
	"weak"
)

// P5.7

// heapOf is a heap that all of a list was put into.
func heapOf(l []pair, compare func(a, b pair) int) *Heap[pair] {
	h := New(compare)
	for _, x := range l {
		h.Push(x)
	}
	return h
}

// emptied is all that a heap gives, one by one.
func emptied(h *Heap[pair]) []pair {
	var l []pair
	for x, ok := h.Pop(); ok; x, ok = h.Pop() {
		l = append(l, x)
	}
	return l
}

// wantHeap checks what Len and Peek say, twice, since neither may take anything out.
func wantHeap(t *testing.T, h *Heap[pair], length int, first string) {
	t.Helper()
	for range 2 {
		x, ok := h.Peek()
		if h.Len() != length || ok != (length > 0) || ok && x.String() != first || !ok && x != (pair{}) {
			t.Errorf("Len is %d, Peek %v, %v; want %d, %s", h.Len(), x, ok, length, first)
		}
	}
}

func wantPop(t *testing.T, h *Heap[pair], first string) {
	t.Helper()
	if x, ok := h.Pop(); !ok || x.String() != first {
		t.Errorf("Pop is %v, %v; want %s", x, ok, first)
	}
}

func wantEmpty(t *testing.T, h *Heap[pair]) {
	t.Helper()
	wantHeap(t, h, 0, "")
	if x, ok := h.Pop(); ok || x != (pair{}) {
		t.Errorf("Pop of an empty heap is %v, %v", x, ok)
	}
	wantHeap(t, h, 0, "")
}

func TestHeapOfTheExample(t *testing.T) {
	h := New(by)
	wantEmpty(t, h)
	h.Push(pair{2, "a"})
	wantHeap(t, h, 1, "2a")
	h.Push(pair{1, "a"})
	wantHeap(t, h, 2, "1a")
	h.Push(pair{1, "b"})
	wantHeap(t, h, 3, "1a")
	wantPop(t, h, "1a")
	wantHeap(t, h, 2, "1b")
	wantPop(t, h, "1b")
	wantHeap(t, h, 1, "2a")
	wantPop(t, h, "2a")
	wantEmpty(t, h)
	h.Push(pair{3, "c"})
	wantHeap(t, h, 1, "3c")
}

func TestNoHeap(t *testing.T) {
	var h *Heap[pair]
	wantEmpty(t, h)
	h.Push(pair{1, "a"})
	wantEmpty(t, h)
}

// TestZeroHeap: as one that New made of the nil function, which gives out what came first.
func TestZeroHeap(t *testing.T) {
	var zero Heap[pair]
	for _, h := range []*Heap[pair]{&zero, {}, New[pair](nil)} {
		wantEmpty(t, h)
		for _, x := range pairs("2a 1a 3a 1b") {
			h.Push(x)
		}
		wantHeap(t, h, 4, "2a")
		wantPop(t, h, "2a")
		h.Push(pair{0, "z"})
		wantHeap(t, h, 4, "1a")
		want(t, "all that is left", emptied(h), "1a 3a 1b 0z")
		wantEmpty(t, h)
	}
}

func TestHeapsByAllOrders(t *testing.T) {
	for _, o := range orders {
		for _, l := range sample() {
			h := heapOf(l, o.given)
			if h.Len() != len(l) {
				t.Errorf("Len is %d with %s in", h.Len(), say(l))
			}
			want(t, "a heap "+o.name+" of "+say(l), emptied(h), say(plainSort(l, o.meant)))
			wantEmpty(t, h)
		}
	}
}

// byTurns puts in and takes out, as the steps say, and holds the heap against a plain list: a step takes out if it is 0, else it puts in its number.
func byTurns(t *testing.T, steps []int, given, meant func(a, b pair) int) {
	t.Helper()
	h, plain := New(given), []pair(nil)
	for i, step := range steps {
		switch {
		case step > 0:
			x := pair{step, fmt.Sprint("-", i)}
			h.Push(x)
			plain = append(plain, x)
		case len(plain) == 0:
			wantEmpty(t, h)
		default:
			first := plainFirst(plain, meant)
			wantPop(t, h, plain[first].String())
			plain = slices.Delete(plain, first, first+1)
		}
		if len(plain) > 0 {
			wantHeap(t, h, len(plain), plain[plainFirst(plain, meant)].String())
		}
	}
	want(t, "all that is left", emptied(h), say(plainSort(plain, meant)))
}

// TestHeapByAllTurns: all rows of up to seven steps with two numbers.
func TestHeapByAllTurns(t *testing.T) {
	rows := [][]int{nil}
	for i := 0; len(rows[i]) < 7; i++ {
		for step := range 3 {
			rows = append(rows, append(slices.Clone(rows[i]), step))
		}
	}
	for _, o := range orders {
		for _, steps := range rows {
			byTurns(t, steps, o.given, o.meant)
		}
	}
}

func TestHeapByManyTurns(t *testing.T) {
	r := rand.New(rand.NewSource(7))
	for _, o := range orders {
		for _, numbers := range []int{2, 5, 300} {
			steps := make([]int, 2000)
			for i := range steps {
				steps[i] = max(0, r.Intn(numbers*5/3+1)-numbers*2/3)
			}
			byTurns(t, steps, o.given, o.meant)
		}
	}
}

func FuzzHeap(f *testing.F) {
	f.Add([]byte{2, 1, 1, 0, 0, 0, 0}, uint8(0))
	f.Add([]byte("some bytes\x00 that come and\x00\x00 go"), uint8(3))
	f.Fuzz(func(t *testing.T, data []byte, which uint8) {
		o := orders[int(which)%len(orders)]
		steps := make([]int, len(data))
		for i, n := range data {
			steps[i] = int(n)
		}
		byTurns(t, steps, o.given, o.meant)
	})
}

// TestHeapsGoApart: what is done to one is not seen in another one.
func TestHeapsGoApart(t *testing.T) {
	one, two := New(by), New(by)
	one.Push(pair{1, "a"})
	wantEmpty(t, two)
	two.Push(pair{2, "b"})
	wantPop(t, one, "1a")
	wantHeap(t, two, 1, "2b")
}

// living is how many of what is pointed to somebody keeps.
func living(pointers []weak.Pointer[pair]) int {
	runtime.GC()
	count := 0
	for _, p := range pointers {
		if p.Value() != nil {
			count++
		}
	}
	return count
}

// TestHeapOfPointers: elements come out as they are, and once they are out the heap keeps nothing of them.
func TestHeapOfPointers(t *testing.T) {
	h := New(func(a, b *pair) int { return by(*a, *b) })
	var pointers []weak.Pointer[pair]
	for n := range 9 {
		x := &pair{n * 5 % 9, "a"}
		pointers = append(pointers, weak.Make(x))
		h.Push(x)
	}
	for left := 8; left >= 0; left-- {
		first, _ := h.Peek()
		if x, ok := h.Pop(); !ok || x != first {
			t.Errorf("Pop is %v, %v; Peek was %v", x, ok, first)
		}
		if kept := living(pointers); kept != left {
			t.Errorf("of 9 elements with %d in %d are kept", left, kept)
		}
	}
	runtime.KeepAlive(h)
}

// TestHeapAsksFew: a heap that looks through all its elements each time would ask far more.
func TestHeapAsksFew(t *testing.T) {
	asked := 0
	h := New(func(a, b int) int {
		asked++
		return cmp.Compare(a, b)
	})
	const count = 1 << 12
	for _, n := range rand.New(rand.NewSource(3)).Perm(count) {
		h.Push(n)
	}
	for n := range count {
		if x, ok := h.Pop(); !ok || x != n {
			t.Fatalf("Pop is %d, %v; want %d", x, ok, n)
		}
	}
	if most := count * 3 * 12; asked > most {
		t.Errorf("%d elements in and out ask %d times; want at most %d", count, asked, most)
	}
}

// P5.9

func TestHeapIsSort(t *testing.T) {
	for _, o := range orders {
		for _, l := range sample() {
			want(t, "a heap "+o.name, emptied(heapOf(l, o.given)), say(Sort(l, o.given)))
		}
	}
}
