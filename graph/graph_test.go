package graph

import (
	"reflect"
	"slices"
	"strconv"
	"strings"
	"testing"

	"inkling/api"
)

// list is the texts that stand between blanks.
func list(text string) []string { return strings.Fields(text) }

// read is edges as the document's examples write them, with commas between.
func read(t testing.TB, text string) []api.Edge {
	t.Helper()
	var edges []api.Edge
	for piece := range strings.SplitSeq(text, ",") {
		words := list(piece)
		switch {
		case len(words) == 3 && (words[1] == ">" || words[1] == "!"):
			edges = append(edges, api.Edge{From: words[0], To: words[2], Negative: words[1] == "!"})
		case len(words) > 0:
			t.Fatalf("%q is no edge", piece)
		}
	}
	return edges
}

func wantNodes(t testing.TB, names, edges, wanted string) {
	t.Helper()
	if got := Nodes(list(names), read(t, edges)); !slices.Equal(got, list(wanted)) {
		t.Errorf("Nodes(%s; %s) is %q; want %s", names, edges, got, wanted)
	}
	wantLaws(t, list(names), read(t, edges))
}

func wantReach(t testing.TB, edges, from, wanted string) {
	t.Helper()
	if got := Reach(read(t, edges), list(from)...); !slices.Equal(got, list(wanted)) {
		t.Errorf("Reach(%s; %s) is %q; want %s", edges, from, got, wanted)
	}
	wantLaws(t, list(from), read(t, edges))
}

// wantParts takes the parts with commas between.
func wantParts(t testing.TB, names, edges, wanted string) {
	t.Helper()
	var parts [][]string
	for part := range strings.SplitSeq(wanted, ",") {
		if nodes := list(part); len(nodes) > 0 {
			parts = append(parts, nodes)
		}
	}
	if got := Parts(list(names), read(t, edges)); !slices.EqualFunc(got, parts, slices.Equal) {
		t.Errorf("Parts(%s; %s) is %q; want %s", names, edges, got, wanted)
	}
	wantLaws(t, list(names), read(t, edges))
}

// wantLevels takes the nodes and their levels in turn.
func wantLevels(t testing.TB, names, edges, wanted string) {
	t.Helper()
	var ranks []api.Rank
	for pair := range slices.Chunk(list(wanted), 2) {
		level, _ := strconv.Atoi(pair[1])
		ranks = append(ranks, api.Rank{Node: pair[0], Level: level})
	}
	if got, e := Levels(list(names), read(t, edges)); !slices.Equal(got, ranks) || e != api.OK {
		t.Errorf("Levels(%s; %s) is %v, %v; want %s, OK", names, edges, got, e, wanted)
	}
	wantLaws(t, list(names), read(t, edges))
}

func wantNoLevels(t testing.TB, names, edges string) {
	t.Helper()
	if got, e := Levels(list(names), read(t, edges)); got != nil || e != api.ErrCycle {
		t.Errorf("Levels(%s; %s) is %v, %v; want none, ErrCycle", names, edges, got, e)
	}
	wantLaws(t, list(names), read(t, edges))
}

func wantCycle(t testing.TB, edges string, wanted ...int) {
	t.Helper()
	if row, ok := Cycle(read(t, edges)); !slices.Equal(row, wanted) || !ok {
		t.Errorf("Cycle(%s) is %v, %v; want %v, true", edges, row, ok, wanted)
	}
	wantLaws(t, nil, read(t, edges))
}

func wantNoCycle(t testing.TB, edges string) {
	t.Helper()
	if row, ok := Cycle(read(t, edges)); row != nil || ok {
		t.Errorf("Cycle(%s) is %v, %v; want none, false", edges, row, ok)
	}
	wantLaws(t, nil, read(t, edges))
}

// The chapter's examples.
func TestExamples(t *testing.T) {
	wantNodes(t, "z a", "a > b", "a b z")
	wantReach(t, "a > b, b > c, d > a", "a", "a b c")
	wantReach(t, "", "x x", "x")
	wantParts(t, "d", "a > c, b > a, c > a, c > e", "d, e, a c, b")
	wantLevels(t, "", "a > b, a ! c, c ! d, e > a", "a 2 b 0 c 1 d 0 e 2")
	wantLevels(t, "x", "", "x 0")
	wantNoLevels(t, "", "a ! a")
	wantCycle(t, "a > b, b > a, b ! c, c > b", 2, 3)
	wantCycle(t, "a > b, b ! a, a ! b", 1, 0)
	wantCycle(t, "a > b, b > a, a ! a, c ! c", 2)
	wantNoCycle(t, "a ! b, c > a")
}

// Without names and edges there is nothing; nil and empty lists are the same.
func TestNothing(t *testing.T) {
	for _, names := range [][]string{nil, {}} {
		for _, edges := range [][]api.Edge{nil, {}} {
			levels, e := Levels(names, edges)
			row, ok := Cycle(edges)
			if len(Nodes(names, edges))+len(Reach(edges, names...))+len(Parts(names, edges))+len(levels)+len(row)+len(Turned(edges)) > 0 || e != api.OK || ok {
				t.Error("there is something of nothing")
			}
			wantLaws(t, names, edges)
		}
	}
	if len(Reach(read(t, "a > b"))) > 0 {
		t.Error("from nowhere something is reached")
	}
}

// P13.1

func TestNodes(t *testing.T) {
	wantNodes(t, "b a b", "", "a b")
	wantNodes(t, "", "c > a, a ! c, b > b", "a b c")
	wantNodes(t, "c d", "d > a, c ! d", "a c d")
	wantNodes(t, "aa a B b", "ab > A", "A B a aa ab b")
	texts := odd()
	slices.Sort(texts)
	var edges []api.Edge
	for i, text := range texts {
		edges = append(edges, api.Edge{From: texts[len(texts)-1-i], To: text})
	}
	if got := Nodes(nil, edges); !slices.Equal(got, texts) {
		t.Errorf("Nodes of odd texts is %q; want %q", got, texts)
	}
	if got := Nodes(slices.Concat(odd(), odd()), nil); !slices.Equal(got, texts) {
		t.Errorf("Nodes of odd names is %q; want %q", got, texts)
	}
}

func TestTurned(t *testing.T) {
	got := Turned(read(t, "b > a, a ! c, d ! d, b > a"))
	if wanted := read(t, "a > b, c ! a, d ! d, a > b"); !slices.Equal(got, wanted) {
		t.Errorf("Turned is%s; want%s", sayEdges(got), sayEdges(wanted))
	}
}

// P13.2

func TestReach(t *testing.T) {
	edges := "a > b, b ! c, c > d, x > y, y > x, e > a"
	wantReach(t, edges, "a", "a b c d")
	wantReach(t, edges, "d", "d")
	wantReach(t, edges, "y", "x y")
	wantReach(t, edges, "y c", "c d x y")
	wantReach(t, edges, "c y c", "c d x y")
	wantReach(t, edges, "z", "z")
	wantReach(t, edges, "z a0 e", "a a0 b c d e z")
	wantReach(t, edges, "", "")
	// A round trip is gone round once.
	wantReach(t, "a > a, a > b, b > a, b > c, c > c", "b", "a b c")
	if got := Reach([]api.Edge{{From: "", To: "\xff"}, {From: "\xff", To: "a"}, {From: "b", To: ""}}, ""); !slices.Equal(got, []string{"", "a", "\xff"}) {
		t.Errorf("Reach from the empty text is %q", got)
	}
}

// P13.3

func TestParts(t *testing.T) {
	wantParts(t, "b a", "", "a, b")
	wantParts(t, "", "a > a", "a")
	wantParts(t, "", "a > b", "b, a")
	wantParts(t, "", "b > a", "a, b")
	wantParts(t, "", "c > b, b > a, a > c", "a b c")
	// The sign does not matter.
	wantParts(t, "", "a ! b, b ! a, b ! c", "c, a b")
	// A part that may stand next only now is taken ahead of greater ones that waited.
	wantParts(t, "", "a > z, b > c", "c, b, z, a")
	wantParts(t, "x", "a > m, b > a", "m, a, b, x")
	// The least first node counts, not the number of nodes or their other ones.
	wantParts(t, "b", "a > z, z > a, c > y, y > c", "a z, b, c y")
	wantParts(t, "", "b > a, a > b, c > a, c > d, d > c, e > d, e > f", "a b, c d, f, e")
	// Several edges between the same parts are waited for once.
	wantParts(t, "", "a > b, a > b, a ! b, c > b, c > d, d > c, d > b, e > a, e > c, e > d", "b, a, c d, e")
	// Two round trips with one node in common, and one that a third one ties together.
	wantParts(t, "", "a > b, b > a, b > c, c > b", "a b c")
	wantParts(t, "", "a > b, b > a, c > d, d > c, b > c", "c d, a b")
	wantParts(t, "", "a > b, b > a, c > d, d > c, b > c, d > e, e > a", "a b c d e")
	// Edges across and back to what is told already.
	wantParts(t, "", "a > b, b > c, a > c, d > b, d > a", "c, b, a, d")
	wantParts(t, "", "a > b, b > c, c > b, a > d, d > b, d > a", "b c, a d")
}

// P13.4

func TestLevels(t *testing.T) {
	wantLevels(t, "b a b", "", "a 0 b 0")
	wantLevels(t, "", "a > a", "a 0")
	wantLevels(t, "", "a > b, b > a", "a 0 b 0")
	wantLevels(t, "z", "a ! b", "a 1 b 0 z 0")
	wantLevels(t, "", "a > b, a ! b", "a 1 b 0")
	wantLevels(t, "", "a ! b, a ! b", "a 1 b 0")
	// The longest way counts, wherever it goes.
	wantLevels(t, "", "a ! b, a ! c, c ! b", "a 2 b 0 c 1")
	wantLevels(t, "", "a > b, b ! c, a ! d, d > e, e ! f", "a 2 b 1 c 0 d 1 e 1 f 0")
	// What is asked of one node of a part holds for all of it.
	wantLevels(t, "", "a > b, b > c, c > a, c ! d, e > a, f ! b", "a 1 b 1 c 1 d 0 e 1 f 2")
	wantLevels(t, "", "a > b, b > a, a ! c, b ! d, d ! c", "a 2 b 2 c 0 d 1")
	wantNoLevels(t, "", "a > b, b ! a")
	wantNoLevels(t, "x", "a ! b, b > c, c > a")
	wantNoLevels(t, "", "a > b, b > a, a > b, b ! a")
	// It may stand anywhere, above or below what has levels.
	wantNoLevels(t, "", "a ! b, c ! d, d > e, e > d, d ! e, e ! f")
}

// Of all levels up to the number of nodes no node's is below the one that is told: for all graphs of three nodes.
func TestLeastLevels(t *testing.T) {
	nodes := list("a b c")
	count := 0
	for edges := range allGraphs(nodes) {
		ranks, e := Levels(nodes, edges)
		least := []int{9, 9, 9}
		there := false
		for i := range 64 {
			levels := []int{i % 4, i / 4 % 4, i / 16}
			if !areLevels(nodes, edges, levels) {
				continue
			}
			there = true
			for k := range least {
				least[k] = min(least[k], levels[k])
			}
		}
		if there != (e == api.OK) {
			t.Errorf("Levels(%s) is %v; there are some: %v", sayEdges(edges), e, there)
		}
		for k, rank := range ranks {
			if rank != (api.Rank{Node: nodes[k], Level: least[k]}) {
				t.Errorf("Levels(%s) is %v; want %v", sayEdges(edges), ranks, least)
			}
		}
		if there {
			count++
		}
	}
	if count < 1000 {
		t.Errorf("%d graphs alone have levels", count)
	}
}

// P13.5

func TestCycle(t *testing.T) {
	wantNoCycle(t, "a > a, a > b, b > a")
	wantNoCycle(t, "a ! b, b ! c, a ! c")
	// A negative edge that leads into a round trip, or out of it, is not on it.
	wantNoCycle(t, "a ! b, b > c, c > b, c ! d")
	wantCycle(t, "a ! a", 0)
	wantCycle(t, "a > a, a ! a, a ! a", 1)
	wantCycle(t, "a > b, b > c, c ! a", 2, 0, 1)
	// The fewest edges come first, then the least numbers, from the first one on.
	wantCycle(t, "a ! b, b > c, c > a, d ! e, e > d", 3, 4)
	wantCycle(t, "d ! e, b > a, a ! b, e > d", 0, 3)
	wantCycle(t, "b > a, b ! a, a ! b, b > a", 1, 2)
	wantCycle(t, "x > y, b > a, b > a, a ! b", 3, 1)
	wantCycle(t, "b > a, a ! b, a ! b, b ! a", 1, 0)
	wantCycle(t, "c > a, b > c, b > c, c > a, a ! b", 4, 1, 0)
	// A lower number that leads a longer way round is not taken.
	wantCycle(t, "b > c, c > a, b > a, a ! b", 3, 2)
	wantCycle(t, "b > c, c > d, b > d, d > a, a ! b", 4, 2, 3)
	// A lower number behind a greater one does not make up for it.
	wantCycle(t, "y > a, x > a, b > x, b > y, a ! b", 4, 2, 1)
	// The negative edge is first, wherever a lower one stands; of two negative ones the lower one.
	wantCycle(t, "a > b, b > c, c ! d, d > a", 2, 3, 0, 1)
	wantCycle(t, "a > b, b ! c, c > d, d ! a", 1, 2, 3, 0)
	wantCycle(t, "d ! a, c > d, b ! c, a > b", 0, 3, 2, 1)
	// The same length, with a lower first edge that is met later.
	wantCycle(t, "p > q, q > r, r > s, s > p, q > p, s ! r, r ! s, b ! a, a > b", 5, 2)
	wantCycle(t, "a > b, c ! d, b > c, d ! a, e ! f, f > e", 4, 5)
	// A node on many round trips.
	wantCycle(t, "h > a, a > h, h > b, b > c, c > h, c ! h, a > b", 5, 2, 3)
	// Through a node from which no negative edge leads.
	wantCycle(t, "m > h, h > m, h > n, n ! o, o > h, o ! n", 3, 5)
}

// allGraphs are all graphs of some nodes: between each two, and from each to itself, there is no edge, a positive or a negative one.
func allGraphs(nodes []string) func(yield func([]api.Edge) bool) {
	return func(yield func([]api.Edge) bool) {
		count := 1
		for range len(nodes) * len(nodes) {
			count *= 3
		}
		for which := range count {
			var edges []api.Edge
			for i := range len(nodes) * len(nodes) {
				if sign := which % 3; sign > 0 {
					edges = append(edges, api.Edge{From: nodes[i/len(nodes)], To: nodes[i%len(nodes)], Negative: sign == 2})
				}
				which /= 3
			}
			if !yield(edges) {
				return
			}
		}
	}
}

func TestAllGraphsOfThreeNodes(t *testing.T) {
	met := [4]int{}
	for edges := range allGraphs(list("a b c")) {
		row, ok := plainCycle(edges)
		wantWords(t, nil, edges, row)
		if stepped, there := steppedCycle(edges); !slices.Equal(stepped, row) || ok != there {
			t.Errorf("of%s one measure says %v, the other %v", sayEdges(edges), row, stepped)
		}
		met[len(row)]++
	}
	if slices.Min(met[:]) < 100 {
		t.Errorf("Cycles by their lengths: %v", met)
	}
}

// All rows of up to so many edges between so many nodes, so that each edge has each number.
func TestAllShortLists(t *testing.T) {
	for _, size := range []struct{ nodes, edges int }{{2, 4}, {3, 3}} {
		var pool []api.Edge
		for i := range size.nodes * size.nodes * 2 {
			from, to := string(rune('a'+i/2%size.nodes)), string(rune('a'+i/2/size.nodes))
			pool = append(pool, api.Edge{From: from, To: to, Negative: i%2 == 1})
		}
		var grow func(edges []api.Edge)
		grow = func(edges []api.Edge) {
			row, _ := plainCycle(edges)
			wantWords(t, []string{"b"}, edges, row)
			wantWhatFollows(t, []string{"b"}, edges)
			if len(edges) == size.edges {
				return
			}
			for _, e := range pool {
				grow(append(slices.Clip(edges), e))
			}
		}
		grow(nil)
	}
}

// All graphs of four nodes without signs.
func TestAllPartsOfFourNodes(t *testing.T) {
	nodes := list("a b c d")
	met := [5]int{}
	for which := range 1 << 12 {
		var edges []api.Edge
		for i := range 16 {
			if i/4 != i%4 {
				if which%2 == 1 {
					edges = append(edges, api.Edge{From: nodes[i/4], To: nodes[i%4]})
				}
				which /= 2
			}
		}
		parts := Parts(nodes, edges)
		if wanted := plainParts(nodes, edges); !reflect.DeepEqual(parts, wanted) {
			t.Errorf("Parts(%s) is %q; want %q", sayEdges(edges), parts, wanted)
		}
		met[len(parts)]++
	}
	if slices.Min(met[1:]) < 100 {
		t.Errorf("graphs by how many parts they have: %v", met)
	}
}
