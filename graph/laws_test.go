package graph

import (
	"fmt"
	"reflect"
	"slices"
	"testing"

	"inkling/api"
)

// say is a thing as a text, cut where it is long.
func say(x any) string {
	text := fmt.Sprintf("%q", x)
	return text[:min(len(text), 600)]
}

// sayEdges are edges as the document's examples write them.
func sayEdges(edges []api.Edge) string {
	var text string
	for i, e := range edges[:min(len(edges), 40)] {
		sign := ">"
		if e.Negative {
			sign = "!"
		}
		text += fmt.Sprintf(" %d: %q %s %q", i, e.From, sign, e.To)
	}
	return text
}

// wantWords holds all answers against the document's words, read one by one; the row of a Cycle against this one.
func wantWords(t testing.TB, names []string, edges []api.Edge, row []int) {
	t.Helper()
	if got, wanted := Nodes(names, edges), plainNodes(names, edges); !slices.Equal(got, wanted) {
		t.Errorf("Nodes(%q;%s) is %q; want %q", names, sayEdges(edges), got, wanted)
	}
	if got, wanted := Turned(edges), plainTurned(edges); !slices.Equal(got, wanted) {
		t.Errorf("Turned(%s) is %s", sayEdges(edges), sayEdges(got))
	}
	if got, wanted := Reach(edges, names...), plainReach(edges, names...); !slices.Equal(got, wanted) {
		t.Errorf("Reach(%s; %q) is %q; want %q", sayEdges(edges), names, got, wanted)
	}
	if got, wanted := Parts(names, edges), plainParts(names, edges); !slices.EqualFunc(got, wanted, slices.Equal) {
		t.Errorf("Parts(%q;%s) is %q; want %q", names, sayEdges(edges), got, wanted)
	}
	wanted, refusal := plainLevels(names, edges)
	if got, e := Levels(names, edges); !slices.Equal(got, wanted) || e != refusal || e != api.OK && got != nil {
		t.Errorf("Levels(%q;%s) is %v, %v; want %v, %v", names, sayEdges(edges), got, e, wanted, refusal)
	}
	if got, ok := Cycle(edges); !slices.Equal(got, row) || ok != (row != nil) || !ok && got != nil {
		t.Errorf("Cycle(%s) is %v, %v; want %v", sayEdges(edges), got, ok, row)
	}
}

// wantLaws holds all answers against the document's words, and what follows from them; what is handed in stays.
func wantLaws(t testing.TB, names []string, edges []api.Edge) {
	t.Helper()
	namesBefore, edgesBefore := slices.Clone(names), slices.Clone(edges)
	row, _ := steppedCycle(edges)
	wantWords(t, names, edges, row)
	wantWhatFollows(t, names, edges)
	if !slices.Equal(names, namesBefore) || !slices.Equal(edges, edgesBefore) {
		t.Errorf("what was handed in was %q;%s; is %q;%s", namesBefore, sayEdges(edgesBefore), names, sayEdges(edges))
	}
}

// wantWhatFollows is P13.6; it asks the package alone.
func wantWhatFollows(t testing.TB, names []string, edges []api.Edge) {
	t.Helper()
	parts := Parts(names, edges)
	wantCycleAndLevels(t, names, edges, parts)
	wantOnePartEach(t, names, edges, parts)
	wantOtherOrders(t, names, edges)
	wantTurned(t, names, edges, parts)
	wantReasons(t, names, edges)
}

// partOf is the number of a node's part.
func partOf(parts [][]string, node string) int {
	return slices.IndexFunc(parts, func(part []string) bool { return slices.Contains(part, node) })
}

// wantCycleAndLevels: there are levels just if there is no Cycle, just if no negative edge has both ends in one part; a Cycle is a round trip in one part, its edges have unlike From.
func wantCycleAndLevels(t testing.TB, names []string, edges []api.Edge, parts [][]string) {
	t.Helper()
	inside := slices.ContainsFunc(edges, func(e api.Edge) bool { return e.Negative && partOf(parts, e.From) == partOf(parts, e.To) })
	row, ok := Cycle(edges)
	if _, e := Levels(names, edges); ok != inside || (e == api.ErrCycle) != inside || e != api.OK && e != api.ErrCycle {
		t.Errorf("of %q;%s Cycle is %v, Levels has %v; a negative edge is within a part: %v", names, sayEdges(edges), row, e, inside)
	}
	if !ok {
		return
	}
	var from []string
	for i, number := range row {
		if number < 0 || number >= len(edges) {
			t.Fatalf("in the Cycle %v of%s there is no edge %d", row, sayEdges(edges), number)
		}
		e, next := edges[number], edges[row[(i+1)%len(row)]]
		if e.To != next.From || partOf(parts, e.From) != partOf(parts, e.To) || slices.Contains(from, e.From) {
			t.Errorf("in the Cycle %v of%s the edge %d does not fit", row, sayEdges(edges), number)
		}
		from = append(from, e.From)
	}
	if !edges[row[0]].Negative {
		t.Errorf("the Cycle %v of%s does not begin with a negative edge", row, sayEdges(edges))
	}
}

// wantOnePartEach: each node stands in one part, all of a part have one level and come to one another, no edge leads to a part that stands behind.
func wantOnePartEach(t testing.TB, names []string, edges []api.Edge, parts [][]string) {
	t.Helper()
	all := slices.Sorted(slices.Values(slices.Concat(parts...)))
	if !slices.Equal(all, Nodes(names, edges)) {
		t.Errorf("the parts of %q;%s have the nodes %q", names, sayEdges(edges), all)
	}
	levels, _ := Levels(names, edges)
	for _, part := range parts {
		first := Reach(edges, part[0])
		for _, node := range part {
			if !slices.Equal(Reach(edges, node), first) || levels != nil && levelOf(levels, node) != levelOf(levels, part[0]) {
				t.Errorf("in the part %q of %q;%s there is %q", part, names, sayEdges(edges), node)
			}
		}
	}
	for _, e := range edges {
		if partOf(parts, e.From) < partOf(parts, e.To) {
			t.Errorf("in the parts %q of %q;%s the part of %q stands ahead of that of %q", parts, names, sayEdges(edges), e.From, e.To)
		}
	}
}

func levelOf(levels []api.Rank, node string) int {
	return levels[slices.IndexFunc(levels, func(r api.Rank) bool { return r.Node == node })].Level
}

// wantOtherOrders: names and edges in another order, and twice, tell the same, and a Cycle is as long.
func wantOtherOrders(t testing.TB, names []string, edges []api.Edge) {
	t.Helper()
	otherNames, otherEdges := slices.Concat(names, names), slices.Concat(edges, edges)
	slices.Reverse(otherNames)
	slices.Reverse(otherEdges)
	levels, e := Levels(names, edges)
	otherLevels, other := Levels(otherNames, otherEdges)
	same := slices.Equal(Nodes(names, edges), Nodes(otherNames, otherEdges)) &&
		slices.Equal(Reach(edges, names...), Reach(otherEdges, otherNames...)) &&
		reflect.DeepEqual(Parts(names, edges), Parts(otherNames, otherEdges)) &&
		slices.Equal(levels, otherLevels) && e == other
	row, ok := Cycle(edges)
	otherRow, otherOK := Cycle(otherEdges)
	if !same || ok != otherOK || len(row) != len(otherRow) {
		t.Errorf("%q;%s in another order, and twice, tell something else", names, sayEdges(edges))
	}
}

// wantTurned: turned twice the edges are as they were; the parts are the same sets, and who came to a node is come to.
func wantTurned(t testing.TB, names []string, edges []api.Edge, parts [][]string) {
	t.Helper()
	turned := Turned(edges)
	if !slices.Equal(Turned(turned), edges) {
		t.Errorf("turned twice,%s is%s", sayEdges(edges), sayEdges(Turned(turned)))
	}
	sets := func(parts [][]string) [][]string {
		return slices.SortedFunc(slices.Values(parts), slices.Compare)
	}
	if got := Parts(names, turned); !reflect.DeepEqual(sets(got), sets(parts)) {
		t.Errorf("turned, the parts of %q;%s are %q; were %q", names, sayEdges(edges), got, parts)
	}
	nodes := Nodes(names, edges)
	var reach [][]string
	for _, node := range nodes {
		reach = append(reach, Reach(edges, node))
	}
	for _, a := range nodes {
		back := Reach(turned, a)
		for i, b := range nodes {
			if slices.Contains(back, b) != slices.Contains(reach[i], a) {
				t.Errorf("turned,%s says otherwise whether %q comes to %q", sayEdges(edges), b, a)
			}
		}
	}
	row, _ := Cycle(edges)
	if other, _ := Cycle(turned); len(row) != len(other) {
		t.Errorf("of%s the Cycle is %v; turned %v", sayEdges(edges), row, other)
	}
}

// wantReasons: a node of a level above 0 comes, by steps within its level, to one from which a negative edge leads to the level right below.
func wantReasons(t testing.TB, names []string, edges []api.Edge) {
	t.Helper()
	levels, e := Levels(names, edges)
	if e != api.OK {
		return
	}
	var flat []api.Edge
	var grounds []string
	for _, e := range edges {
		switch from, to := levelOf(levels, e.From), levelOf(levels, e.To); {
		case from == to:
			flat = append(flat, e)
		case e.Negative && from == to+1:
			grounds = append(grounds, e.From)
		}
	}
	for _, rank := range levels {
		reason := slices.ContainsFunc(Reach(flat, rank.Node), func(node string) bool { return slices.Contains(grounds, node) })
		if rank.Level < 0 || rank.Level > 0 && !reason {
			t.Errorf("in the levels %v of %q;%s there is no reason for that of %q", levels, names, sayEdges(edges), rank.Node)
		}
	}
}
