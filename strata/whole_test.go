package strata

import (
	"math/rand"
	"reflect"
	"slices"
	"strconv"
	"strings"
	"sync"
	"testing"
	"unsafe"

	"inkling/api"
	"inkling/parse"
)

// allPrograms are all programs of rules without terms over some predicates: one depends on another, or on itself, not at all, positively, negatively, or (with 4 ways) both.
func allPrograms(preds []string, ways int) func(yield func(api.Program) bool) {
	return func(yield func(api.Program) bool) {
		count := 1
		for range len(preds) * len(preds) {
			count *= ways
		}
		for which := range count {
			var p api.Program
			for i := range len(preds) * len(preds) {
				dep := api.Dep{Head: preds[i/len(preds)], Body: preds[i%len(preds)]}
				if way := which % ways; way&1 == 1 {
					p.Rules = append(p.Rules, ruleOf(dep))
				}
				if way := which % ways; way&2 == 2 {
					dep.Negative = true
					p.Rules = append(p.Rules, ruleOf(dep))
				}
				which /= ways
			}
			if !yield(p) {
				return
			}
		}
	}
}

func TestAllProgramsOfTwoPredicates(t *testing.T) {
	for p := range allPrograms([]string{"b", "a"}, 4) {
		wantLaws(t, p)
	}
}

func TestAllProgramsOfThreePredicates(t *testing.T) {
	lengths := [4]int{}
	for p := range allPrograms([]string{"b", "a", "c"}, 3) {
		wantWords(t, p)
		way, _ := Round(p)
		lengths[len(way)]++
	}
	if slices.Min(lengths[:]) < 50 {
		t.Errorf("ways round by their lengths: %v", lengths)
	}
}

// Of all strata up to the number of predicates, the Levels are the least ones that fit, predicate by predicate: for all programs of three predicates.
func TestLeastOfAllThatFit(t *testing.T) {
	met := 0
	for p := range allPrograms([]string{"a", "b", "c"}, 3) {
		preds := plainPreds(p)
		var least []api.Tier
		for which := range 64 {
			var l []api.Tier
			for i, pred := range preds {
				l = append(l, api.Tier{Pred: pred, Stratum: which >> (2 * i) & 3})
			}
			if !Fits(p, l) {
				continue
			}
			if least == nil {
				least = slices.Clone(l)
			}
			for i, tier := range l {
				least[i].Stratum = min(least[i].Stratum, tier.Stratum)
			}
		}
		got, e := Levels(p)
		if !slices.Equal(got, least) || (e == api.OK) != (least != nil || len(preds) == 0) {
			t.Errorf("Levels(%s) is %v, %v; want %v", say(p), got, e, least)
		}
		if e == api.OK {
			met++
		}
	}
	if met < 1000 {
		t.Errorf("%d programs alone have strata", met)
	}
}

// tally counts programs by what is told of them, so that a test tells when it met too few.
type tally struct {
	classes       map[api.Errno]int
	high          int // with three strata or more
	short, longer int // ways round of one or two Deps, and of more
}

func (c *tally) look(t testing.TB, p api.Program) {
	t.Helper()
	wantLaws(t, p)
	c.classes[Good(p)]++
	if l, _ := Parts(p); len(l) > 2 {
		c.high++
	}
	switch way, _ := Round(p); {
	case len(way) > 2:
		c.longer++
	case len(way) > 0:
		c.short++
	}
}

func TestDrawnPrograms(t *testing.T) {
	count := tally{classes: map[api.Errno]int{}}
	for seed, d := range []struct {
		drawer
		statements int
	}{
		{drawer{given: 2, derived: 3, negative: 3}, 8},
		{drawer{given: 3, derived: 6, negative: 4, back: 3}, 14},
		{drawer{given: 4, derived: 16, negative: 6, back: 6, looseness: 60}, 24},
		{drawer{given: 12, derived: 25, negative: 10, back: 2}, 50},
	} {
		d.r = rand.New(rand.NewSource(int64(140 + seed)))
		for range 150 {
			p := d.program(d.statements)
			count.look(t, p)
			wantSame(t, p, d.shuffled(p))
		}
	}
	if count.classes[api.OK] < 100 || count.classes[api.ErrUnsafe] < 5 || count.high < 50 || count.short < 20 || count.longer < 10 {
		t.Errorf("met: %+v", count)
	}
}

func TestDrawnFaults(t *testing.T) {
	d := drawer{r: rand.New(rand.NewSource(145)), given: 3, derived: 5, negative: 3, back: 5, unformed: 90, arity: 60, mix: 15, looseness: 15}
	count := tally{classes: map[api.Errno]int{}}
	for range 1500 {
		p := d.program(8)
		count.look(t, p)
		wantSame(t, p, d.shuffled(p))
	}
	for _, class := range []api.Errno{api.OK, api.ErrArg, api.ErrArity, api.ErrMixed, api.ErrUnsafe, api.ErrCycle} {
		if count.classes[class] < 50 {
			t.Errorf("met %v", count.classes)
		}
	}
}

// Strata that are drawn, near those that fit.
func TestDrawnStrata(t *testing.T) {
	d := drawer{r: rand.New(rand.NewSource(146)), given: 2, derived: 4, negative: 4}
	met := map[bool]int{}
	for range 1500 {
		p := d.program(6)
		l, _ := plainLevels(p)
		for range 4 {
			for i := range l {
				l[i].Stratum += d.r.Intn(4) / 2
			}
			if len(l) > 0 && d.oneIn(6) {
				l[d.r.Intn(len(l))].Stratum -= 2
			}
			if got := Fits(p, l); got != plainFits(p, l) {
				t.Errorf("Fits(%s; %v) is %v", say(p), l, got)
			}
			met[Fits(p, l)]++
		}
	}
	if met[true] < 500 || met[false] < 500 {
		t.Errorf("met: %v", met)
	}
}

// Rising numbers don't rise as texts.
func numbered(i int) string { return "p" + strconv.Itoa(i) }

const huge = 60000

// chain is a program in which each predicate but the last one depends on the next one.
func chain(count int, negative bool) api.Program {
	var p api.Program
	for i := range count - 1 {
		p.Rules = append(p.Rules, ruleOf(api.Dep{Head: numbered(i), Body: numbered(i + 1), Negative: negative}))
	}
	return p
}

// Chains that would be too deep for calls that call themselves, and too long to be gone through once for each stratum, upward and downward.
func TestHugeChains(t *testing.T) {
	p := chain(huge, true)
	for range 2 {
		l, e := Levels(p)
		if len(l) != huge || e != api.OK || Good(p) != api.OK || !Fits(p, l) {
			t.Fatalf("a huge chain has %d levels, %v", len(l), e)
		}
		for _, tier := range l {
			number, _ := strconv.Atoi(tier.Pred[1:])
			if tier.Stratum != huge-1-number {
				t.Fatalf("of a huge chain a level is %v", tier)
			}
		}
		list, e := Parts(p)
		if len(list) != huge || e != api.OK || len(list[0]) != 0 || len(list[1]) != 1 || p.Rules[list[1][0]].Head.Pred != numbered(huge-2) {
			t.Errorf("a huge chain has %d parts, %v", len(list), e)
		}
		if way, e := Round(p); way != nil || e != api.OK {
			t.Errorf("a huge chain has a way round of %d, %v", len(way), e)
		}
		slices.Reverse(p.Rules)
	}
}

func TestHugeRings(t *testing.T) {
	p := chain(huge, false)
	p.Rules = append(p.Rules, ruleOf(api.Dep{Head: numbered(huge - 1), Body: numbered(0)}), ruleOf(api.Dep{Head: numbered(7), Body: "below", Negative: true}))
	l, e := Levels(p)
	if len(l) != huge+1 || e != api.OK || l[0] != (api.Tier{Pred: "below"}) || l[1] != (api.Tier{Pred: "p0", Stratum: 1}) || l[huge] != (api.Tier{Pred: numbered(9999), Stratum: 1}) {
		t.Errorf("a huge ring has %d levels, %v", len(l), e)
	}
	p.Rules[huge/2].Body[0].Kind = api.Negative
	way, e := Round(p)
	if len(way) != huge || e != api.OK || Good(p) != api.ErrCycle {
		t.Fatalf("a huge ring has a way round of %d, %v", len(way), e)
	}
	for i, dep := range way {
		if dep.Body != way[(i+1)%huge].Head || dep.Negative != (dep.Head == numbered(huge/2)) {
			t.Fatalf("in a huge way round stands %v", dep)
		}
	}
}

// A program that says the same again and again, and one in which a predicate depends on very many.
func TestHugePrograms(t *testing.T) {
	var same, wide api.Program
	for i := range huge {
		same.Rules = append(same.Rules, rule(atom("p"), negative(atom("q")), positive(atom("r")), negative(atom("q"))))
		wide.Rules = append(wide.Rules, rule(atom("p"), negative(atom("q"+strconv.Itoa(i)))))
	}
	got, e := Deps(same)
	if !slices.Equal(got, deps("p not q, p r")) || e != api.OK {
		t.Errorf("Deps is %v, %v", got, e)
	}
	if list, e := Parts(same); len(list) != 2 || len(list[1]) != huge || !slices.IsSorted(list[1]) || e != api.OK {
		t.Errorf("there are %d parts, %v", len(list), e)
	}
	got, e = Deps(wide)
	if len(got) != huge || e != api.OK || !slices.IsSortedFunc(got, func(a, b api.Dep) int { return strings.Compare(a.Body, b.Body) }) {
		t.Errorf("there are %d Deps, %v", len(got), e)
	}
	if l, e := Levels(wide); len(l) != huge+1 || e != api.OK || l[0] != (api.Tier{Pred: "p", Stratum: 1}) {
		t.Errorf("there are %d levels, %v", len(l), e)
	}
}

// The document's bounds: as many literals as a body may have, and names as long as they may be.
func TestTheGreatestBody(t *testing.T) {
	long := func(last string) string { return strings.Repeat("p", api.MaxName-1) + last }
	r := rule(atom(long("a")))
	for i := range api.MaxBody {
		r.Body = append(r.Body, ruleOf(api.Dep{Body: long(string(rune('b' + i%3))), Negative: i == api.MaxBody-1}).Body...)
	}
	p := rules(r)
	wantLaws(t, p)
	if got, e := Deps(p); len(got) != 4 || e != api.OK || !got[1].Negative || got[1].Body != long("b") {
		t.Errorf("Deps is %v, %v", got, e)
	}
	if got, e := Levels(p); len(got) != 4 || e != api.OK || got[0].Stratum != 1 {
		t.Errorf("Levels is %v, %v", got, e)
	}
}

// answers are all answers of a program.
type answers struct {
	deps   []api.Dep
	levels []api.Tier
	parts  [][]int
	way    []api.Dep
	errors [5]api.Errno
}

func answersOf(p api.Program) answers {
	var all answers
	all.deps, all.errors[0] = Deps(p)
	all.levels, all.errors[1] = Levels(p)
	all.parts, all.errors[2] = Parts(p)
	all.way, all.errors[3] = Round(p)
	all.errors[4] = Good(p)
	return all
}

// samples have many predicates, so that a map's order would be seen: one has strata, the other one many ways round.
func samples() []api.Program {
	d := drawer{r: rand.New(rand.NewSource(147)), given: 10, derived: 30, negative: 3}
	level := d.program(80)
	d.back = 3
	return []api.Program{level, d.program(80)}
}

// The same again, always: a map's order is not to be seen.
func TestTheSameAgain(t *testing.T) {
	for i, p := range samples() {
		first := answersOf(p)
		for range 100 {
			if again := answersOf(p); !reflect.DeepEqual(again, first) {
				t.Fatalf("it was %s; is %s", say(first), say(again))
			}
		}
		if e := []api.Errno{api.OK, api.ErrCycle}[i]; first.errors[4] != e || i == 0 && len(first.parts) < 3 || i == 1 && len(first.way) == 0 {
			t.Errorf("the sample %d is %s", i, say(first))
		}
	}
}

// FuzzStrata takes a program's text, and strata as bytes.
func FuzzStrata(f *testing.F) {
	f.Add("p :- not q. q :- r. r.", []byte{1, 0, 0})
	f.Add("p :- q. q :- not r. r :- p, s.", []byte{0})
	f.Add(`input e/2 "f". output t/2. t(X, Y) :- e(X, Y). t(X, Z) :- e(X, Y), t(Y, Z).`, []byte{255, 3})
	f.Add("p(X) :- not q(X). p(X) :- q(Y), X != Y.", []byte{})
	f.Fuzz(func(t *testing.T, text string, strata []byte) {
		p, _, _, e := parse.Program(text)
		if e != api.OK || len(text) > 600 {
			return
		}
		wantLaws(t, p)
		var l []api.Tier
		for i, pred := range plainPreds(p) {
			if i < len(strata) {
				l = append(l, api.Tier{Pred: pred, Stratum: int(int8(strata[i]))})
			}
		}
		if got := Fits(p, l); got != plainFits(p, l) {
			t.Errorf("Fits(%s; %v) is %v", text, l, got)
		}
	})
}

// What is handed in stays as it was, and no answer hangs on it.

// roomy has the same things with spare room behind, in which other things stand.
func roomy[T any](list []T, other T) []T {
	room := append(slices.Clone(list), other, other, other)
	return room[:len(list)]
}

func whole[T any](list []T) []T { return slices.Clone(list[:cap(list)]) }

func roomyProgram(p api.Program) api.Program {
	spare := rule(atom("spare"), negative(atom("spare")))
	q := api.Program{Inputs: roomy(p.Inputs, api.Input{Pred: "spare"}), Outputs: roomy(p.Outputs, api.Output{Pred: "spare"}), Rules: roomy(p.Rules, spare)}
	for i, r := range q.Rules {
		q.Rules[i].Body = roomy(r.Body, spare.Body[0])
		q.Rules[i].Head.Args = roomy(r.Head.Args, variable("Spare"))
	}
	return q
}

// withRoom is a copy of all of it, spare room included.
func withRoom(p api.Program) api.Program {
	q := api.Program{Inputs: whole(p.Inputs), Outputs: whole(p.Outputs), Rules: whole(p.Rules)}
	for i, r := range q.Rules {
		q.Rules[i].Body = whole(r.Body)
		q.Rules[i].Head.Args = whole(r.Head.Args)
	}
	return q
}

func TestWhatIsHandedInStays(t *testing.T) {
	for _, p := range samples() {
		p = roomyProgram(p)
		before := withRoom(p)
		wantLaws(t, p)
		l, _ := Levels(p)
		l = roomy(l, api.Tier{Pred: "spare", Stratum: 99})
		tiersBefore := whole(l)
		Fits(p, l)
		if !reflect.DeepEqual(withRoom(p), before) || !slices.Equal(whole(l), tiersBefore) {
			t.Errorf("what was handed in was\n%s; is\n%s", say(before), say(p))
		}
	}
}

// textsOf are all texts of all answers.
func textsOf(all answers) []string {
	var texts []string
	for _, dep := range slices.Concat(all.deps, all.way) {
		texts = append(texts, dep.Head, dep.Body)
	}
	for _, tier := range all.levels {
		texts = append(texts, tier.Pred)
	}
	return texts
}

// looseText is a text that lies in memory which can be written over.
func looseText(s string) (string, []byte) {
	memory := []byte(s)
	return unsafe.String(unsafe.SliceData(memory), len(memory)), memory
}

// An answer stays when the texts that were handed in are written over, and no two texts of answers lie in one place.
func TestTextsOfAnswersAreApart(t *testing.T) {
	a, memory := looseText("one")
	b, more := looseText("other")
	level := rules(rule(atom(a), negative(atom(b)), positive(atom(b)), positive(atom(a))))
	round := rules(rule(atom(a), negative(atom(b)), positive(atom(b))), rule(atom(b), positive(atom(a))))
	texts := slices.Concat(textsOf(answersOf(level)), textsOf(answersOf(round)))
	all := slices.Concat(texts, []string{a, b})
	for i, x := range all {
		for _, y := range all[:i] {
			if unsafe.StringData(x) == unsafe.StringData(y) {
				t.Errorf("of %q two share memory: %q", texts, x)
			}
		}
	}
	before := make([]string, len(texts))
	for i, text := range texts {
		before[i] = string([]byte(text))
	}
	clear(memory)
	clear(more)
	if len(texts) != 18 || !slices.Equal(texts, before) {
		t.Errorf("the texts were %q; are %q", before, texts)
	}
}

// scribble writes over all of the answers, spare room included, one list after the other, and tells whether another list is changed by it.
func scribble(all answers) bool {
	fill(all.deps, api.Dep{Head: "?", Body: "?"})
	fill(all.levels, api.Tier{Pred: "?", Stratum: 99})
	fill(all.way, api.Dep{Head: "?", Body: "?"})
	for i, part := range all.parts {
		rest := slices.Concat(all.parts[i+1:]...)
		fill(part, 99)
		if !slices.Equal(slices.Concat(all.parts[i+1:]...), rest) {
			return true
		}
	}
	fill(all.parts, []int{99})
	return false
}

func fill[T any](list []T, other T) {
	list = list[:cap(list)]
	for i := range list {
		list[i] = other
	}
}

func TestListsOfAnswersAreApart(t *testing.T) {
	for i, p := range samples() {
		first, second := answersOf(p), answersOf(p)
		if scribble(first) {
			t.Error("two parts share memory")
		}
		if third := answersOf(p); !reflect.DeepEqual(second, third) {
			t.Errorf("beside answers that were changed there are\n%s\n%s", say(second), say(third))
		}
		if !reflect.DeepEqual(p, samples()[i]) {
			t.Errorf("what was handed in is %s", say(p))
		}
	}
}

// Nothing is kept from call to call, so any number may call at once (go test -race would tell).
func TestManyCallAtOnce(t *testing.T) {
	p := samples()[1]
	wanted := answersOf(p)
	var all sync.WaitGroup
	for range 8 {
		all.Go(func() {
			for range 20 {
				if got := answersOf(p); !reflect.DeepEqual(got, wanted) {
					t.Errorf("it is %s", say(got))
				}
			}
		})
	}
	all.Wait()
}
