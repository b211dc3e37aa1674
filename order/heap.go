package order

// Heap gives out what comes first. The element at i of in is never ahead of the one at (i-1)/2, so the first of all is at 0; turns is how many were put in so far. A heap that New did not make has a nil function, which counts as one.
type Heap[T any] struct {
	compare func(a, b T) int
	in      []entry[T]
	turns   int
}

// entry has an element's turn, since a heap's own ways put alike ones in any order.
type entry[T any] struct {
	element T
	turn    int
}

// New: P5.7.
func New[T any](compare func(a, b T) int) *Heap[T] { return &Heap[T]{compare: compare} }

// Push: P5.7.
func (h *Heap[T]) Push(x T) {
	if h == nil {
		return
	}
	h.in = append(h.in, entry[T]{x, h.turns})
	h.turns++
	h.rise(len(h.in) - 1)
}

// Pop: P5.7.
func (h *Heap[T]) Pop() (T, bool) {
	first, ok := h.Peek()
	if !ok {
		return first, false
	}
	last := len(h.in) - 1
	h.in[0] = h.in[last]
	// Wiped, not cut off alone: what an element leads to must not be kept once it is out.
	h.in[last] = entry[T]{}
	h.in = h.in[:last]
	h.sink(0)
	return first, true
}

// Peek: P5.7.
func (h *Heap[T]) Peek() (T, bool) {
	if h.Len() == 0 {
		var none T
		return none, false
	}
	return h.in[0].element, true
}

// Len: P5.7.
func (h *Heap[T]) Len() int {
	if h == nil {
		return 0
	}
	return len(h.in)
}

// ahead goes by the turns where the caller's order tells nothing, so of any two just one is ahead.
func (h *Heap[T]) ahead(i, j int) bool {
	a, b := &h.in[i], &h.in[j]
	if c := orderOf(h.compare)(a.element, b.element); c != 0 {
		return c < 0
	}
	return a.turn < b.turn
}

// rise takes the element at i toward 0 until the one over it is ahead.
func (h *Heap[T]) rise(i int) {
	for i > 0 {
		over := (i - 1) / 2
		if !h.ahead(i, over) {
			return
		}
		h.in[i], h.in[over] = h.in[over], h.in[i]
		i = over
	}
}

// sink takes the element at i away from 0 until it is ahead of those under it.
func (h *Heap[T]) sink(i int) {
	for {
		first := i
		for under := 2*i + 1; under <= 2*i+2 && under < len(h.in); under++ {
			if h.ahead(under, first) {
				first = under
			}
		}
		if first == i {
			return
		}
		h.in[i], h.in[first] = h.in[first], h.in[i]
		i = first
	}
}
