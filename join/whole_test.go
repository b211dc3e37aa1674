package join

import (
	"iter"
	"math/rand"
	"reflect"
	"slices"
	"strconv"
	"strings"
	"sync"
	"testing"
	"unsafe"

	"inkling/api"
	"inkling/parse"
)

// All rules of up to three of these literals, over stores in which each of them holds for some and not for others.
func TestAllSmallRules(t *testing.T) {
	x, y, a := variable("X"), variable("Y"), constant("a")
	pool := []api.Literal{
		positive(atom("q", x)), positive(atom("r", y, x)), positive(atom("r", x, x)), positive(atom("r", a, y)), positive(atom("s")),
		negative(atom("q", x)), negative(atom("r", x, y)), negative(atom("s")),
		unlike(x, y), unlike(a, x),
	}
	heads := []api.Atom{atom("p"), atom("p", x, a, x)}
	f := four{
		storeOf(t, "q a", "q b", "r a b", "r b b", "s"),
		storeOf(t, "r a a", "q c", "s", "r c b"),
		storeOf(t, "r c b", "r b b", "q b", "r a b", "q a", "s", "r a a", "q c"),
		storeOf(t, "q b", "r b c", "r a a"),
	}
	met := map[api.Errno]int{}
	var grow func(body []api.Literal)
	grow = func(body []api.Literal) {
		for _, head := range heads {
			r := rule(head, body...)
			wantJoin(t, r, f)
			met[plainCompile(r)]++
			if plainSafe(r) {
				wantDeltas(t, compiled(t, r), f.old, f.delta, f.not)
			}
		}
		if len(body) == 3 {
			return
		}
		for _, l := range pool {
			grow(append(slices.Clip(body), l))
		}
	}
	grow(nil)
	if met[api.OK] < 500 || met[api.ErrUnsafe] < 500 {
		t.Errorf("met: %v", met)
	}
}

func TestDrawnJoins(t *testing.T) {
	met, matches := map[api.Errno]int{}, 0
	for seed, d := range []drawer{{names: 1, constants: 2}, {names: 2, constants: 3}, {names: 3, constants: 3}, {names: 4, constants: 2}, {names: 3, constants: 5}, {names: 3, constants: 3, looseness: 8}, {names: 3, constants: 3, unformed: 5}} {
		d.r = rand.New(rand.NewSource(int64(170 + seed)))
		for range 300 {
			r, f := d.rule(4), d.four(t, 40)
			wantJoin(t, r, f)
			met[plainCompile(r)]++
			matches += len(f.plain(r, 0))
		}
	}
	if met[api.OK] < 1000 || met[api.ErrArg] < 50 || met[api.ErrUnsafe] < 50 || matches < 1000 {
		t.Errorf("met: %v, with %d matches", met, matches)
	}
}

// P17.6: of any old and delta, and of such that have no fact in common.
func TestDrawnDeltas(t *testing.T) {
	d := drawer{r: rand.New(rand.NewSource(180)), names: 3, constants: 3}
	for range 500 {
		r := d.rule(4)
		old, delta, not := d.store(t, 25), d.store(t, 15), d.store(t, 10)
		j := compiled(t, r)
		wantDeltas(t, j, old, delta, not)
		apart := storeOf(t)
		for _, f := range delta.plain {
			if !old.plain.has(f) {
				apart.add(t, f)
			}
		}
		wantDeltas(t, j, old, apart, not)
	}
}

// Renamed, and with its literals in another order, a rule has the same matches.
func TestTurnedRules(t *testing.T) {
	d := drawer{r: rand.New(rand.NewSource(181)), names: 3, constants: 3}
	for range 200 {
		r, f := d.rule(3), d.four(t, 25)
		if len(r.Body) > 4 {
			wantTurned(t, r, d.r.Perm(len(r.Body)), f)
			continue
		}
		for order := range orders(len(r.Body)) {
			wantTurned(t, r, order, f)
		}
	}
}

// Stores by any row of calls.
func TestDrawnStores(t *testing.T) {
	d := drawer{r: rand.New(rand.NewSource(182)), names: 2, constants: 4}
	for range 100 {
		all := []both{storeOf(t)}
		for range 60 {
			i := d.r.Intn(len(all))
			switch d.r.Intn(12) {
			case 0:
				all = append(all, both{all[i].store.Copy(), slices.Clone(all[i].plain)})
			case 1:
				wantJoin(t, d.rule(2), four{all[i], all[d.r.Intn(len(all))], all[i], all[d.r.Intn(len(all))]})
			default:
				all[i].add(t, d.fact())
			}
		}
		for _, b := range all {
			wantStore(t, b)
		}
	}
}

// The whole by rounds: what Each tells round by round, Delta tells by what is new alone.
func TestRounds(t *testing.T) {
	d := drawer{r: rand.New(rand.NewSource(183)), constants: 8}
	for range 30 {
		base := storeOf(t)
		for range 10 {
			base.add(t, api.Fact{Pred: "e", Tuple: []string{d.constant(), d.constant()}})
		}
		rules := []*Join{join(t, "t(X, Y) :- e(X, Y)"), join(t, "t(X, Z) :- t(X, Y), t(Y, Z)"), join(t, "s(X, Y) :- t(X, Y), not t(Y, X), X != a")}
		anew := base.store.Copy()
		for before := -1; before < anew.Len(); {
			before = anew.Len()
			for _, j := range rules[:2] {
				for m := range j.Each(anew, nil) {
					anew.Add(api.Fact{Pred: "t", Tuple: m.Head})
				}
			}
		}
		all, old, delta := base.store.Copy(), New(), base.store
		for delta.Len() > 0 {
			next := New()
			for _, j := range rules[:2] {
				for k := range j.Positives() {
					for m := range j.Delta(k, old, delta, all, nil) {
						if f := (api.Fact{Pred: "t", Tuple: m.Head}); !all.Has(f) {
							next.Add(f)
						}
					}
				}
			}
			old = all.Copy()
			for _, tuple := range next.Tuples("t", 2) {
				all.Add(api.Fact{Pred: "t", Tuple: tuple})
			}
			delta = next
		}
		if !sameRelations(all.Model(), anew.Model()) || all.Len() <= base.store.Len() {
			t.Errorf("by deltas it is %s; anew %s", say(all.Model()), say(anew.Model()))
		}
		if got := texts(rules[2].Each(all, all)); !slices.Equal(got, texts(rules[2].Each(anew, anew))) {
			t.Errorf("by deltas told is %s", say(got))
		}
	}
}

// Great stores, and rules that must be gone through in a good order.

func put(s *Store, pred string, texts ...string) { s.Add(api.Fact{Pred: pred, Tuple: texts}) }

func count(w iter.Seq[api.Match]) int {
	n := 0
	for range w {
		n++
	}
	return n
}

func wantCount(t testing.TB, w iter.Seq[api.Match], wanted int) {
	t.Helper()
	if got := count(w); got != wanted {
		t.Errorf("told are %d; want %d", got, wanted)
	}
}

// In whatever order the literals stand, none of these goes through all pairs.
func TestGreatJoins(t *testing.T) {
	const size = 30000
	s := New()
	for i := range size {
		put(s, "e", strconv.Itoa(i), strconv.Itoa(i+1))
		put(s, "big", strconv.Itoa(i), strconv.Itoa(i%3), strconv.Itoa(i/2))
		put(s, "one", strconv.Itoa(i))
	}
	put(s, "few", "7")
	put(s, "few", "8")
	for _, row := range []struct {
		rule   string
		wanted int
	}{
		{"t(X, Y) :- one(X), one(Y), e(X, Y)", size - 1},
		{"t(X, W) :- e(X, Y), e(Z, W), e(Y, Z)", size - 2},
		{"t(X, Y) :- one(X), one(Y), few(X), e(X, Y)", 2},
		{"t(X, Z) :- big(X, Y, Z), few(X)", 2},
		{"t(X, Z) :- one(X), big(Z, Y, W), e(X, Z), few(W)", 4},
		{"t(X, Y) :- one(X), one(Y), big(X, 2, Y), few(Y)", 2},
		{"t(X, Y) :- one(X), one(Y), e(X, nobody)", 0},
		{"t(X, Y) :- one(X), one(Y), nobody(Z)", 0},
		{"t(X, Y) :- one(X), one(Y), nobody", 0},
		{"t(X, Y) :- one(X), one(Y), e(7, Y), e(Y, X)", 1},
		{"t(X, Y) :- X != Y, one(X), one(Y), e(X, Y), not e(Y, X), few(Y)", 2},
	} {
		r := read(t, row.rule)
		for order := range orders(min(len(r.Body), 4)) {
			turned := rule(r.Head, r.Body...)
			turned.Body = slices.Clone(r.Body)
			for i, number := range order {
				turned.Body[i] = r.Body[number]
			}
			wantCount(t, compiled(t, turned).Each(s, s), row.wanted)
		}
	}
}

// A Delta costs what its new facts cost, however great the other stores are, and whichever positive is looked for.
func TestSmallDeltas(t *testing.T) {
	all, delta, none := New(), New(), New()
	for i := range 50000 {
		put(all, "e", strconv.Itoa(i), strconv.Itoa(i+1))
		put(all, "t", strconv.Itoa(i), strconv.Itoa(i+1))
	}
	put(delta, "e", "70", "71")
	put(delta, "t", "70", "71")
	put(none, "u", "70", "71")
	for _, text := range []string{"t(X, Z) :- e(X, Y), t(Y, Z)", "t(X, W) :- t(X, Y), e(Y, Z), e(Z, W)", "t(A, F) :- e(A, B), t(B, C), t(C, D), e(D, E), e(E, F)", "t(X, Y) :- e(X, Y), t(A, X), t(Y, B), A != B, not e(B, A)"} {
		j := join(t, text)
		for k := range j.Positives() {
			for range 300 {
				wantCount(t, j.Delta(k, all, delta, all, all), 1)
				wantCount(t, j.Delta(k, all, none, all, all), 0)
			}
		}
	}
}

// Of the greatest body each walk goes along the literals that hang together.
func TestLongBodies(t *testing.T) {
	s := New()
	for i := range 300 {
		put(s, "e", strconv.Itoa(i), strconv.Itoa(i+1))
	}
	var body []api.Literal
	for i := range api.MaxBody {
		body = append(body, positive(atom("e", variable("X"+strconv.Itoa(i)), variable("X"+strconv.Itoa(i+1)))))
	}
	r := rule(atom("t", variable("X0"), variable("X256")), body...)
	rand.New(rand.NewSource(184)).Shuffle(len(body), func(i, k int) { body[i], body[k] = body[k], body[i] })
	j := compiled(t, r)
	wantCount(t, j.Each(s, nil), 45)
	for _, k := range []int{0, 1, 100, 254, 255} {
		wantCount(t, j.Delta(k, s, s, s, nil), 45)
	}
	for m := range j.Each(s, nil) {
		if from, _ := strconv.Atoi(m.Head[0]); m.Head[1] != strconv.Itoa(from+256) || len(m.Values) != 257 {
			t.Errorf("told is %s", say(m))
		}
	}
	// A fact that is given 256 times over is looked for once in each place.
	same := compiled(t, rule(atom("t", variable("X")), slices.Repeat([]api.Literal{positive(atom("e", variable("X"), variable("Y")))}, api.MaxBody)...))
	wantCount(t, same.Each(s, nil), 300)
}

// Who wants one match pays for no other: of all there are nobody could see the end.
func TestTheFirstOfMany(t *testing.T) {
	s := New()
	for i := range 1000 {
		put(s, "p", strconv.Itoa(i))
	}
	var body []api.Literal
	for i := range 100 {
		body = append(body, positive(atom("p", variable("X"+strconv.Itoa(i)))))
	}
	turns := 0
	for range compiled(t, rule(atom("t"), body...)).Each(s, s) {
		if turns++; turns == 10 {
			break
		}
	}
	if turns != 10 {
		t.Errorf("%d turns", turns)
	}
}

func TestGreatStores(t *testing.T) {
	const size = 200000
	s := New()
	for i := range size {
		put(s, "p", strconv.Itoa(i*7919%size), strconv.Itoa(i%10))
		put(s, "p", strconv.Itoa(i*7919%size), strconv.Itoa(i%10))
	}
	c := s.Copy()
	put(c, "q")
	model := c.Model()
	if s.Len() != size || c.Len() != size+1 || len(model) != 2 || len(model[0].Tuples) != size || !slices.IsSortedFunc(model[0].Tuples, plainCompare) {
		t.Errorf("there are %d and %d", s.Len(), c.Len())
	}
	if tuples := s.Tuples("p", 2); len(tuples) != size || tuples[1][0] != "7919" || tuples[1][1] != "1" {
		t.Errorf("there are %d tuples", len(tuples))
	}
}

// The same again, in the same order, always: a map's order is not to be seen.
func TestTheSameAgain(t *testing.T) {
	build := func() []any {
		s, not := New(), New()
		for i := range 40 {
			put(s, "p"+strconv.Itoa(i%5), strconv.Itoa(i), strconv.Itoa(i*i%11))
			put(s, "p"+strconv.Itoa(i%3), strconv.Itoa(i))
			put(not, "p"+strconv.Itoa(i%7), strconv.Itoa(40-i))
		}
		j := join(t, "t(X, Y, Z) :- p1(X, Y), p2(Z), p0(A, Y), not p3(A), X != A, p2(W, Y)")
		return []any{s.Model(), s.Tuples("p1", 2), slices.Collect(j.Each(s, not)), slices.Collect(j.Delta(2, not, s, s, not)), slices.Collect(j.Delta(3, s, s, s, nil)), j.Rule(), j.Vars()}
	}
	first := build()
	if len(first[2].([]api.Match)) < 10 {
		t.Fatalf("told is %s", say(first[2]))
	}
	for range 50 {
		if again := build(); !reflect.DeepEqual(again, first) {
			t.Fatalf("it was %s; is %s", say(first), say(again))
		}
	}
}

// FuzzJoin takes a rule's text, and facts as bytes: three bytes make a fact of one of the stores.
func FuzzJoin(f *testing.F) {
	f.Add(twoSteps+".", []byte{0, 1, 2, 4, 5, 6, 8, 1, 1, 12, 3, 3})
	f.Add("t(X) :- e(X, Y), not v(Y), X != a.", []byte{3, 9, 27, 81, 1, 2})
	f.Add("t :- e(X, a).", []byte{1, 1, 1})
	f.Add("f(a, b).", []byte{})
	f.Add("t(X) :- not v(X).", []byte{1})
	f.Fuzz(func(t *testing.T, text string, facts []byte) {
		r, _, e := parse.Rule(text)
		if e != api.OK || len(text) > 200 || len(facts) > 90 || len(plainVars(r)) > 4 {
			return
		}
		var preds, constants []string
		for _, l := range r.Body {
			preds = append(preds, l.Atom.Pred)
		}
		for _, term := range plainTerms(r) {
			constants = append(constants, term.Text)
		}
		preds, constants = append(preds, "t"), append(constants, "a", "b", "")
		stores := []both{storeOf(t), storeOf(t), storeOf(t), storeOf(t)}
		for i := 0; i+2 < len(facts); i += 3 {
			f := api.Fact{Pred: preds[int(facts[i]/4)%len(preds)]}
			for k := range int(facts[i+1]) % 4 {
				f.Tuple = append(f.Tuple, constants[(int(facts[i+2])>>(2*k)+int(facts[i+1]))%min(len(constants), 5)])
			}
			if b := &stores[facts[i]%4]; plainMayAdd(f) {
				b.add(t, f)
			} else {
				wantAdd(t, b.store, f, false, api.ErrArg)
			}
		}
		wantJoin(t, r, four{stores[0], stores[1], stores[2], stores[3]})
		for _, b := range stores {
			wantStore(t, b)
		}
		if plainCompile(r) == api.OK {
			wantDeltas(t, compiled(t, r), stores[0], stores[1], stores[3])
		}
	})
}

// What is handed in stays as it was, and no answer hangs on it.

// roomy has the same things with spare room behind, in which other things stand.
func roomy[T any](list []T, other T) []T {
	room := append(slices.Clone(list), other, other, other)
	return room[:len(list)]
}

func roomyRule(r api.Rule) api.Rule {
	spare := variable("Spare")
	q := api.Rule{Head: atom(r.Head.Pred, roomy(r.Head.Args, spare)...), Body: roomy(r.Body, positive(atom("spare", spare)))}
	for i, l := range q.Body {
		q.Body[i].Atom.Args = roomy(l.Atom.Args, spare)
	}
	return q
}

func whole[T any](list []T) []T { return slices.Clone(list[:cap(list)]) }

func wholeRule(r api.Rule) api.Rule {
	q := rule(atom(r.Head.Pred, whole(r.Head.Args)...), whole(r.Body)...)
	for i, l := range q.Body {
		q.Body[i].Atom.Args = whole(l.Atom.Args)
	}
	return q
}

func fill[T any](list []T, other T) {
	list = list[:cap(list)]
	for i := range list {
		list[i] = other
	}
}

const sample = `h(A, "b", C) :- p(A, B), not q(C, B), A != B, p(B, C), C != "k", not r("b")`

func sampleStores(t testing.TB) both {
	return storeOf(t, "p x y", "p y z", "p z x", "p y k", "q x z")
}

func TestWhatIsHandedInStays(t *testing.T) {
	r := roomyRule(read(t, sample))
	before := wholeRule(r)
	j := compiled(t, r)
	b := sampleStores(t)
	first := texts(j.Each(b.store, b.store))
	if !reflect.DeepEqual(wholeRule(r), before) {
		t.Errorf("the rule is %s", say(r))
	}
	// The rule may be written over, and the join goes on by what it was.
	for i := range r.Body {
		fill(r.Body[i].Atom.Args, constant("?"))
	}
	fill(r.Head.Args, variable("W"))
	fill(r.Body, positive(atom("nobody")))
	if again := texts(j.Each(b.store, b.store)); !slices.Equal(again, first) || len(first) == 0 || !sameRule(j.Rule(), read(t, sample)) {
		t.Errorf("told was %v; is %v, of %s", first, again, say(j.Rule()))
	}
	tuple := roomy([]string{"m", "n"}, "spare")
	seen := whole(tuple)
	b.add(t, api.Fact{Pred: "p", Tuple: tuple})
	b.store.Has(api.Fact{Pred: "p", Tuple: tuple})
	if !slices.Equal(whole(tuple), seen) {
		t.Errorf("the tuple is %v", whole(tuple))
	}
	fill(tuple, "?")
	wantStore(t, b)
}

// looseText is a text that lies in memory which can be written over.
func looseText(s string) (string, []byte) {
	memory := []byte(s)
	return unsafe.String(unsafe.SliceData(memory), len(memory)), memory
}

// No text that is handed in is kept.
func TestTextsThatAreHandedInAreNotKept(t *testing.T) {
	pred, memory := looseText("pred")
	name, more := looseText("Known")
	a, most := looseText("constant")
	s := New()
	for _, tuple := range [][]string{{a, a}, {a}, {a, "b"}} {
		wantAdd(t, s, api.Fact{Pred: pred, Tuple: tuple}, true, api.OK)
	}
	x := variable(name)
	j := compiled(t, rule(atom(pred, x, constant(a)), positive(atom(pred, x)), negative(atom(pred, x, constant("k"))), unlike(x, constant("m"))))
	clear(memory)
	clear(more)
	clear(most)
	wanted := rule(atom("pred", variable("Known"), constant("constant")), positive(atom("pred", variable("Known"))), negative(atom("pred", variable("Known"), constant("k"))), unlike(variable("Known"), constant("m")))
	if !sameRule(j.Rule(), wanted) || !slices.Equal(j.Vars(), []string{"Known"}) {
		t.Errorf("it is of %s, with %q", say(j.Rule()), j.Vars())
	}
	wantMatches(t, j.Each(s, s), "constant constant/constant")
	wantStore(t, both{s, plainStore{fact("pred constant constant"), fact("pred constant"), fact("pred constant b")}})
}

// scribble writes over lists, spare room included, one after the other, and tells whether another list is changed by it.
func scribble[T any](other T, lists ...[]T) bool {
	for i, list := range lists {
		var rest [][]T
		for _, one := range lists[i+1:] {
			rest = append(rest, whole(one))
		}
		fill(list, other)
		for k, one := range lists[i+1:] {
			if !reflect.DeepEqual(whole(one), rest[k]) {
				return true
			}
		}
	}
	return false
}

func TestListsOfAnswersAreApart(t *testing.T) {
	b := sampleStores(t)
	j := join(t, sample)
	first := texts(j.Each(b.store, b.store))
	var lists [][]string
	for m := range j.Each(b.store, b.store) {
		lists = append(lists, m.Head, m.Values)
	}
	lists = append(lists, j.Vars(), j.Vars())
	for range 2 {
		for _, r := range b.store.Model() {
			lists = append(lists, r.Tuples...)
		}
		lists = append(lists, b.store.Tuples("p", 2)...)
	}
	one, other := b.store.Model()[0].Tuples, b.store.Tuples("p", 2)
	if scribble("?", lists...) || scribble([]string{"?"}, one, other, b.store.Tuples("p", 2)) {
		t.Error("two lists of answers share memory")
	}
	told, again := j.Rule(), j.Rule()
	terms := [][]api.Term{told.Head.Args, again.Head.Args}
	for i := range told.Body {
		terms = append(terms, told.Body[i].Atom.Args, again.Body[i].Atom.Args)
	}
	if scribble(variable("?"), terms...) || scribble(positive(atom("?")), told.Body, again.Body) {
		t.Error("two lists of rules share memory")
	}
	// A match that was written over in its turn is written over alone.
	for m := range j.Each(b.store, b.store) {
		fill(m.Head, "?")
		fill(m.Values, "?")
	}
	if again := texts(j.Each(b.store, b.store)); !slices.Equal(again, first) || len(first) < 2 || !sameRule(j.Rule(), read(t, sample)) {
		t.Errorf("told was %v; is %v, of %s", first, again, say(j.Rule()))
	}
	wantStore(t, b)
	wantStore(t, both{b.store.Copy(), b.plain})
}

// A join is read alone, so many may go by it at once, each over stores of its own, copies of one another among them (go test -race would tell).
func TestManyGoAtOnce(t *testing.T) {
	j, b := join(t, sample), sampleStores(t)
	wanted := texts(j.Each(b.store, b.store))
	var stores []*Store
	for range 8 {
		stores = append(stores, b.store.Copy())
	}
	var all sync.WaitGroup
	for number, s := range stores {
		all.Go(func() {
			for i := range 20 {
				if got := texts(j.Each(s, s)); !slices.Equal(got, wanted) {
					t.Errorf("told is %v; want %v", got, wanted)
				}
				for k := range 200 {
					put(s, "other", strconv.Itoa(number), strconv.Itoa(number+8*(i*200+k)))
				}
				for k := range j.Positives() + 1 {
					count(j.Delta(k, s, s, s, s))
				}
				s.Model()
				j.Rule()
				j.Vars()
			}
		})
	}
	all.Wait()
	wantStore(t, b)
}

// A walk is told by another goroutine, too, and may stop in between.
func TestWalksThatArePulled(t *testing.T) {
	b := storeOf(t, "e a b", "e b c", "e c a")
	next, stop := iter.Pull(join(t, twoSteps).Each(b.store, b.store))
	m, ok := next()
	b.add(t, fact("e a c"))
	other, also := next()
	stop()
	if _, more := next(); !ok || !also || more || line(m) == line(other) || strings.Contains(line(m)+line(other), `"a" "a"`) {
		t.Errorf("told is %s, %s", say(m), say(other))
	}
}
