package graph

import (
	"math/rand"
	"reflect"
	"slices"
	"strconv"
	"strings"
	"sync"
	"testing"
	"unsafe"

	"inkling/api"
)

// tally counts graphs by whether they have levels, parts of several nodes, and long Cycles, so that a test tells when it met too few.
type tally struct{ levels, joined, short, long int }

func (c *tally) look(t testing.TB, names []string, edges []api.Edge) {
	t.Helper()
	wantLaws(t, names, edges)
	if _, e := Levels(names, edges); e == api.OK {
		c.levels++
	}
	if parts := Parts(names, edges); slices.ContainsFunc(parts, func(part []string) bool { return len(part) > 1 }) {
		c.joined++
	}
	switch row, _ := Cycle(edges); {
	case len(row) > 2:
		c.long++
	case len(row) > 0:
		c.short++
	}
}

func (c *tally) want(t testing.TB, least int) {
	t.Helper()
	if min(c.levels, c.joined, c.short, c.long) < least {
		t.Errorf("with levels %d; with parts of several nodes %d; with short Cycles %d; with long ones %d", c.levels, c.joined, c.short, c.long)
	}
}

func TestDrawnGraphs(t *testing.T) {
	few, more, many := list("a b c d"), odd(), strings.Split("qwertyuiopasdfghjklzxcvbnm", "")
	for seed, d := range []struct {
		drawer
		names, edges int
	}{
		{drawer{nodes: few, negative: 5}, 3, 8},
		{drawer{nodes: more, negative: 8}, 6, 24},
		{drawer{nodes: more, negative: 6, back: 8}, 3, 40},
		{drawer{nodes: many, negative: 9}, 5, 50},
		{drawer{nodes: many, negative: 12, back: 12}, 5, 90},
	} {
		d.r = rand.New(rand.NewSource(int64(130 + seed)))
		var count tally
		for range 400 {
			count.look(t, d.drawer.names(d.names), d.drawer.edges(d.edges))
		}
		count.want(t, 5)
	}
}

// Many negative edges, of which the best way round is seldom one that is met first: rings of some lengths with nodes in common, in drawn orders.
func TestDrawnRings(t *testing.T) {
	nodes := strings.Split("qwertyuiopasdfghjklzxcvbnm", "")
	d := drawer{r: rand.New(rand.NewSource(135)), nodes: nodes, negative: 2}
	lengths := [16]int{}
	for range 400 {
		var edges []api.Edge
		for range 1 + d.r.Intn(3) {
			order := d.r.Perm(len(nodes))[:3+d.r.Intn(10)]
			for i, node := range order {
				edges = append(edges, api.Edge{From: nodes[node], To: nodes[order[(i+1)%len(order)]], Negative: d.oneIn(d.negative)})
			}
		}
		edges = d.shuffled(edges)
		row, _ := steppedCycle(edges)
		wantWords(t, nil, edges, row)
		lengths[len(row)]++
	}
	for length := 3; length < 9; length++ {
		if lengths[length] < 5 {
			t.Errorf("Cycles by their lengths: %v", lengths)
		}
	}
}

// Rising numbers of nodes don't rise as texts.
func node(i int) string { return "n" + strconv.Itoa(i) }

// ring is a way round by so many nodes, from one on, each edge with this sign.
func ring(first, count int, negative bool) []api.Edge {
	var edges []api.Edge
	for i := range count {
		edges = append(edges, api.Edge{From: node(first + i), To: node(first + (i+1)%count), Negative: negative})
	}
	return edges
}

const huge = 120000

// Ways that are so long that calls which call themselves would be nested far too deep, and that look at all nodes again and again would not end while anyone waits.
func TestHugeWays(t *testing.T) {
	way := ring(0, huge, true)[:huge-1]
	if got := Reach(way, node(5)); len(got) != huge-5 {
		t.Errorf("of a huge way %d are reached", len(got))
	}
	parts := Parts(nil, way)
	for i, part := range parts {
		if len(part) != 1 || part[0] != node(huge-1-i) {
			t.Fatalf("of a huge way the part %d is %q", i, part)
		}
	}
	levels, e := Levels(nil, way)
	if len(parts) != huge || len(levels) != huge || e != api.OK || levels[0] != (api.Rank{Node: "n0", Level: huge - 1}) || levels[1] != (api.Rank{Node: "n1", Level: huge - 2}) {
		t.Errorf("of a huge way there are %d parts, %d levels, %v", len(parts), len(levels), e)
	}
	if row, ok := Cycle(way); row != nil || ok {
		t.Errorf("a huge way has a Cycle of %d edges", len(row))
	}
	if got := Reach(Turned(way), node(5)); len(got) != 6 {
		t.Errorf("of a huge way, turned, %d are reached", len(got))
	}
}

func TestHugeRings(t *testing.T) {
	for _, edges := range [][]api.Edge{ring(0, huge, true), ring(0, huge, false)} {
		edges[huge/2].Negative = true
		row, ok := Cycle(edges)
		first := slices.IndexFunc(edges, func(e api.Edge) bool { return e.Negative })
		if len(row) != huge || !ok || row[0] != first || row[1] != first+1 || row[huge-1] != (first+huge-1)%huge {
			t.Errorf("a huge ring has a Cycle of %d edges, %v", len(row), ok)
		}
		parts := Parts(nil, edges)
		if _, e := Levels(nil, edges); len(parts) != 1 || len(parts[0]) != huge || !slices.IsSorted(parts[0]) || e != api.ErrCycle {
			t.Errorf("a huge ring has %d parts, %v", len(parts), e)
		}
	}
	// Turned round, each edge comes ahead of the one that it follows.
	edges := Turned(ring(0, huge, true))
	if row, ok := Cycle(edges); len(row) != huge || !ok || row[0] != 0 || row[1] != huge-1 || row[huge-1] != 1 {
		t.Errorf("a huge ring that is turned has a Cycle of %d edges, %v", len(row), ok)
	}
}

func TestHugeStars(t *testing.T) {
	var star []api.Edge
	for i := range huge {
		star = append(star, api.Edge{From: "hub", To: node(i), Negative: true}, api.Edge{From: node(i), To: "rim"})
	}
	parts := Parts(nil, star)
	if len(parts) != huge+2 || parts[0][0] != "rim" || parts[1][0] != "n0" || parts[2][0] != "n1" || parts[3][0] != "n10" || parts[huge+1][0] != "hub" {
		t.Errorf("a huge star has %d parts", len(parts))
	}
	levels, e := Levels(nil, star)
	if len(levels) != huge+2 || e != api.OK || levels[0] != (api.Rank{Node: "hub", Level: 1}) || levels[1] != (api.Rank{Node: "n0"}) {
		t.Errorf("a huge star has %d levels, %v", len(levels), e)
	}
	if row, ok := Cycle(append(star, api.Edge{From: "rim", To: "hub"})); !slices.Equal(row, []int{0, 1, 2 * huge}) || !ok {
		t.Errorf("a huge star's Cycle is %v, %v", row, ok)
	}
}

// Many small rings, the last one the shortest; one is tied to the next, so that all but the ways round are in reach.
func TestManyRings(t *testing.T) {
	var edges []api.Edge
	for i := 0; i < huge; i += 6 {
		edges = append(edges, ring(i, 6, true)...)
		edges = append(edges, api.Edge{From: node(i), To: node(i + 6)})
	}
	edges = append(edges, ring(huge, 5, false)...)
	edges[len(edges)-1].Negative = true
	last := len(edges) - 1
	if row, ok := Cycle(edges); !slices.Equal(row, []int{last, last - 4, last - 3, last - 2, last - 1}) || !ok {
		t.Errorf("of many rings the Cycle is %v, %v", row, ok)
	}
	if row, ok := Cycle(edges[:last-4]); !slices.Equal(row, []int{0, 1, 2, 3, 4, 5}) || !ok {
		t.Errorf("of many rings of one length the Cycle is %v, %v", row, ok)
	}
	parts := Parts(nil, edges)
	if len(parts) != huge/6+1 || len(parts[0]) != 5 {
		t.Errorf("many rings have %d parts", len(parts))
	}
	for _, part := range parts[1:] {
		if len(part) != 6 {
			t.Fatalf("of many rings a part is %q", part)
		}
	}
}

// A list that says the same again and again.
func TestTheSameEdgeOften(t *testing.T) {
	var edges []api.Edge
	for range huge {
		edges = append(edges, api.Edge{From: "a", To: "b", Negative: true})
	}
	levels, e := Levels([]string{"b"}, edges)
	if !slices.Equal(levels, []api.Rank{{Node: "a", Level: 1}, {Node: "b"}}) || e != api.OK {
		t.Errorf("Levels is %v, %v", levels, e)
	}
	if parts := Parts(nil, edges); !reflect.DeepEqual(parts, [][]string{{"b"}, {"a"}}) {
		t.Errorf("Parts is %q", parts)
	}
	if row, ok := Cycle(append(edges, api.Edge{From: "b", To: "a"})); !slices.Equal(row, []int{0, huge}) || !ok {
		t.Errorf("Cycle is %v, %v", row, ok)
	}
}

func TestLongTexts(t *testing.T) {
	a := strings.Repeat("a", 1<<20)
	b := a + "b"
	edges := []api.Edge{{From: b, To: a, Negative: true}, {From: a, To: a[1:]}, {From: a[1:], To: b}}
	row, _ := steppedCycle(edges)
	if got, ok := Cycle(edges); !slices.Equal(got, row) || !ok {
		t.Errorf("Cycle is %v, %v; want %v", got, ok, row)
	}
	if got := Nodes(nil, edges); !slices.Equal(got, []string{a[1:], a, b}) {
		t.Errorf("of three long texts there are %d nodes", len(got))
	}
}

// answers are all answers of a graph.
type answers struct {
	nodes, reached []string
	parts          [][]string
	levels         []api.Rank
	e              api.Errno
	row            []int
	ok             bool
	turned         []api.Edge
}

func answersOf(names []string, edges []api.Edge) answers {
	all := answers{nodes: Nodes(names, edges), reached: Reach(edges, names...), parts: Parts(names, edges), turned: Turned(edges)}
	all.levels, all.e = Levels(names, edges)
	all.row, all.ok = Cycle(edges)
	return all
}

// samples have many nodes, so that a map's order would be seen: one has levels, the other one a Cycle.
func samples() [][]api.Edge {
	d := drawer{r: rand.New(rand.NewSource(136)), nodes: strings.Split("qwertyuiopasdfghjklzxcvbnm", ""), negative: 4}
	var round []api.Edge
	for len(round) < 50 {
		if e := d.edge(); e.From != e.To {
			round = append(round, e)
		}
	}
	level := slices.DeleteFunc(slices.Clone(round), func(e api.Edge) bool { return e.From <= e.To })
	return [][]api.Edge{level, round}
}

// The same again, always: a map's order is not to be seen.
func TestTheSameAgain(t *testing.T) {
	for _, edges := range samples() {
		first := answersOf(list("v w 9"), edges)
		for range 100 {
			if again := answersOf(list("v w 9"), edges); !reflect.DeepEqual(again, first) {
				t.Fatalf("it was %s; is %s", say(first), say(again))
			}
		}
	}
	first, second := answersOf(nil, samples()[0]), answersOf(nil, samples()[1])
	if first.e != api.OK || first.ok || second.e != api.ErrCycle || !second.ok || len(second.row) < 2 {
		t.Errorf("the samples are %s; %s", say(first), say(second))
	}
}

// FuzzGraph takes two bytes for an edge: its ends, and its sign.
func FuzzGraph(f *testing.F) {
	f.Add([]byte{0x01, 0x12, 0x8a, 0x20}, []byte{3})
	f.Add([]byte("some edges between some nodes"), []byte("names"))
	f.Add([]byte{0x81, 0x80, 0x12, 0x21, 0x00}, []byte{})
	f.Fuzz(func(t *testing.T, data, more []byte) {
		texts := odd()
		var names []string
		for _, n := range more[:min(len(more), 9)] {
			names = append(names, texts[n%16])
		}
		var edges []api.Edge
		for pair := range slices.Chunk(data[:min(len(data), 80)], 2) {
			edges = append(edges, api.Edge{From: texts[pair[0]%16], To: texts[pair[len(pair)-1]%16], Negative: pair[0] >= 128})
		}
		wantLaws(t, names, edges)
	})
}

// P13.7: what is handed in stays as it was, and no answer hangs on it.

// roomy has the same things with spare room behind, in which other things stand.
func roomy[T any](list []T, other T) []T {
	room := append(slices.Clone(list), other, other, other)
	return room[:len(list)]
}

func whole[T any](list []T) []T { return slices.Clone(list[:cap(list)]) }

func TestWhatIsHandedInStays(t *testing.T) {
	for _, edges := range samples() {
		names := roomy(list("z a z"), "spare")
		edges = roomy(edges, api.Edge{From: "spare", To: "a", Negative: true})
		namesBefore, edgesBefore := whole(names), whole(edges)
		wantLaws(t, names, edges)
		if !slices.Equal(whole(names), namesBefore) || !slices.Equal(whole(edges), edgesBefore) {
			t.Errorf("what was handed in was %q, %s; is %q, %s", namesBefore, sayEdges(edgesBefore), whole(names), sayEdges(whole(edges)))
		}
	}
}

// textsOf are all texts of all answers.
func textsOf(names []string, edges []api.Edge) []string {
	all := answersOf(names, edges)
	texts := slices.Concat(all.nodes, all.reached, slices.Concat(all.parts...))
	for _, rank := range all.levels {
		texts = append(texts, rank.Node)
	}
	for _, e := range all.turned {
		texts = append(texts, e.From, e.To)
	}
	return texts
}

// looseText is a text that lies in memory which can be written over.
func looseText(s string) (string, []byte) {
	memory := []byte(s)
	return unsafe.String(unsafe.SliceData(memory), len(memory)), memory
}

// An answer stays when the texts that were handed in are written over, and no two texts of answers lie in one place.
func TestTextsOfAnswersAreApart(t *testing.T) {
	a, memory := looseText("one")
	b, more := looseText("other")
	edges := []api.Edge{{From: b, To: a, Negative: true}, {From: b, To: b}}
	texts := textsOf([]string{b, a}, edges)
	all := slices.Concat(texts, []string{a, b})
	for i, x := range all {
		for _, y := range all[:i] {
			if unsafe.StringData(x) == unsafe.StringData(y) {
				t.Errorf("of %q two share memory: %q", texts, x)
			}
		}
	}
	clear(memory)
	clear(more)
	if wanted := list("one other one other one other one other one other other other"); !slices.Equal(texts, wanted) {
		t.Errorf("the texts are %q; want %q", texts, wanted)
	}
}

// scribble writes over all of the answers, spare room included, one list after the other, and tells whether another list is changed by it.
func scribble(all answers) bool {
	fill(all.nodes, "?")
	fill(all.reached, "?")
	fill(all.levels, api.Rank{Node: "?", Level: 99})
	fill(all.row, 99)
	fill(all.turned, api.Edge{From: "?", To: "?"})
	for i, part := range all.parts {
		rest := slices.Concat(all.parts[i+1:]...)
		fill(part, "?")
		if !slices.Equal(slices.Concat(all.parts[i+1:]...), rest) {
			return true
		}
	}
	fill(all.parts, []string{"?"})
	return false
}

func fill[T any](list []T, other T) {
	list = list[:cap(list)]
	for i := range list {
		list[i] = other
	}
}

func TestListsOfAnswersAreApart(t *testing.T) {
	for i, edges := range samples() {
		names := list("m a x")
		first, second := answersOf(names, edges), answersOf(names, edges)
		if scribble(first) {
			t.Error("two parts share memory")
		}
		if third := answersOf(names, edges); !reflect.DeepEqual(second, third) {
			t.Errorf("beside answers that were changed there are\n%s\n%s", say(second), say(third))
		}
		if !slices.Equal(edges, samples()[i]) || !slices.Equal(names, list("m a x")) {
			t.Errorf("what was handed in is %q;%s", names, sayEdges(edges))
		}
	}
}

// Nothing is kept from call to call, so any number may call at once (go test -race would tell).
func TestManyCallAtOnce(t *testing.T) {
	edges := samples()[1]
	wanted := answersOf(list("k"), edges)
	var all sync.WaitGroup
	for range 8 {
		all.Go(func() {
			for range 20 {
				if got := answersOf(list("k"), edges); !reflect.DeepEqual(got, wanted) {
					t.Errorf("it is %s", say(got))
				}
			}
		})
	}
	all.Wait()
}
