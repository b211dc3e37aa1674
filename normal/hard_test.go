package normal

import (
	"math/rand"
	"slices"
	"strconv"
	"strings"
	"testing"

	"inkling/api"
)

// What a search that goes literal by literal would not come to an end with.

func name(prefix string, i int) string { return prefix + strconv.Itoa(i) }

// joined is a rule with an edge from each of so many nodes to each that it is joined with.
func joined(prefix string, nodes int, are func(i, k int) bool) api.Rule {
	r := rule(atom("p"))
	for i := range nodes {
		for k := range nodes {
			if are(i, k) {
				r.Body = append(r.Body, positive("e", name(prefix, i), name(prefix, k)))
			}
		}
	}
	return r
}

// unjoined is the same with unlike literals, one for each two nodes of which any is joined with the other.
func unjoined(prefix string, nodes int, are func(i, k int) bool) api.Rule {
	r := rule(atom("p"))
	for i := range nodes {
		for k := range i {
			if are(i, k) || are(k, i) {
				r.Body = append(r.Body, unlike(name(prefix, i), name(prefix, k)))
			}
		}
	}
	return r
}

func all(i, k int) bool { return i != k }

func ring(nodes int) func(i, k int) bool {
	return func(i, k int) bool { return k == (i+1)%nodes }
}

func chain(i, k int) bool { return k == i+1 }

// drawnAnew is a rule with its literals in a drawn order, and other names.
func drawnAnew(r api.Rule, seed int64) api.Rule {
	d := drawer{r: rand.New(rand.NewSource(seed))}
	names := Vars(r)
	var list []api.Term
	for _, i := range d.r.Perm(len(names)) {
		list = append(list, variable(name("X", i)))
	}
	return d.shuffled(Put(r, names, list))
}

func wantCovered(t testing.TB, what string, a, b api.Rule, wanted bool) {
	t.Helper()
	if Covers(a, b) != wanted || Covers(a, drawnAnew(b, 1)) != wanted || Covers(drawnAnew(a, 2), b) != wanted {
		t.Errorf("%s: Covers is not always %v", what, wanted)
	}
}

func wantAllAlike(t testing.TB, what string, a, b api.Rule, wanted bool) {
	t.Helper()
	if Alike(a, b) != wanted || Alike(b, a) != wanted || Alike(a, drawnAnew(b, 3)) != wanted || Alike(drawnAnew(b, 4), drawnAnew(a, 5)) != wanted {
		t.Errorf("%s: Alike is not always %v", what, wanted)
	}
}

// So many things can't be told from one another by fewer names; in as many they can.
func TestAllUnlike(t *testing.T) {
	for _, count := range []int{1, 2, 3, 5, 9, 15} {
		fewer, more := unjoined("a", count, all), unjoined("X", count+1, all)
		wantCovered(t, "one more", more, fewer, false)
		wantCovered(t, "as many", unjoined("X", count, all), fewer, true)
		wantCovered(t, "fewer", unjoined("X", count, all), unjoined("Y", count+1, all), true)
		wantAllAlike(t, "one more", more, unjoined("Y", count, all), false)
		wantAllAlike(t, "as many", more, unjoined("Y", count+1, all), true)
	}
}

// A ring covers one that it goes round some times; a chain covers a chain that is not shorter.
func TestRingsAndChains(t *testing.T) {
	for _, sizes := range [][2]int{{1, 1}, {2, 1}, {3, 2}, {4, 2}, {4, 3}, {60, 12}, {60, 7}, {121, 11}, {120, 11}, {256, 128}, {256, 255}} {
		a, b := joined("X", sizes[0], ring(sizes[0])), joined("Y", sizes[1], ring(sizes[1]))
		wantCovered(t, "rings of "+say(sizes), a, b, sizes[0]%sizes[1] == 0)
		wantAllAlike(t, "rings of "+say(sizes), a, b, sizes[0] == sizes[1])
		wantCovered(t, "chain and ring of "+say(sizes), joined("X", sizes[0], chain), b, true)
		wantCovered(t, "chains of "+say(sizes), joined("X", sizes[0], chain), joined("Y", sizes[1], chain), sizes[0] <= sizes[1])
		wantAllAlike(t, "chains of "+say(sizes), joined("X", sizes[0], chain), joined("Y", sizes[1], chain), sizes[0] == sizes[1])
	}
}

// Two rings, or one that is as long as both: each node looks like each.
func TestRingsThatLookAlike(t *testing.T) {
	apart := func(nodes int, first int) func(i, k int) bool {
		return func(i, k int) bool {
			if i < first {
				return k == (i+1)%first
			}
			return k == first+(i-first+1)%(nodes-first)
		}
	}
	for _, nodes := range []int{8, 30, 250} {
		one := joined("X", nodes, ring(nodes))
		wantAllAlike(t, "one and two", one, joined("Y", nodes, apart(nodes, nodes/2)), false)
		wantAllAlike(t, "two and two", joined("X", nodes, apart(nodes, 3)), joined("Y", nodes, apart(nodes, nodes-3)), true)
		wantAllAlike(t, "two and others", joined("X", nodes, apart(nodes, 3)), joined("Y", nodes, apart(nodes, nodes/2)), false)
		wantCovered(t, "two and one", joined("X", nodes, apart(nodes, nodes/2)), one, false)
		wantCovered(t, "one and two", one, joined("Y", nodes, apart(nodes, nodes/2)), true)
	}
}

// Layers of nodes, each joined with some of the next one: there are more ways than can be gone, and each is one step too short.
func TestLayers(t *testing.T) {
	for seed := range int64(5) {
		d := drawer{r: rand.New(rand.NewSource(seed))}
		b := rule(atom("p"))
		for layer := range 40 {
			for i := range 3 {
				b.Body = append(b.Body, positive("e", name("L", 3*layer+i), name("L", 3*layer+3+i)), positive("e", name("L", 3*layer+i), name("L", 3*layer+3+d.r.Intn(3))))
			}
		}
		wantCovered(t, "a way", joined("X", 41, chain), b, true)
		wantCovered(t, "a way that is too long", joined("X", 42, chain), b, false)
		wantAllAlike(t, "layers", b, drawnAnew(b, 9), true)
	}
}

// Maps: an edge stands for two lands that must not have one colour.
func TestColours(t *testing.T) {
	wheel := func(nodes int) func(i, k int) bool {
		return func(i, k int) bool { return k == 0 && i > 0 || i > 0 && k > 0 && (k == i+1 || k == 1 && i == nodes-1) }
	}
	grid := func(width int) func(i, k int) bool {
		return func(i, k int) bool { return k == i+width || k == i+1 && k%width > 0 }
	}
	wantCovered(t, "an even wheel", unjoined("X", 101, wheel(101)), unjoined("c", 3, all), true)
	wantCovered(t, "an odd wheel", unjoined("X", 102, wheel(102)), unjoined("c", 3, all), false)
	wantCovered(t, "an odd wheel", unjoined("X", 102, wheel(102)), unjoined("c", 4, all), true)
	wantCovered(t, "a grid", unjoined("X", 100, grid(10)), unjoined("c", 2, all), true)
	wantCovered(t, "a grid in a grid", unjoined("X", 100, grid(10)), unjoined("Y", 121, grid(11)), true)
	wantCovered(t, "a wheel in a grid", unjoined("X", 102, wheel(102)), unjoined("Y", 121, grid(11)), false)
}

// Graphs in which each node has as many edges, and each two as many nodes in common, and which are two, all the same.
func TestGraphsThatLookAlike(t *testing.T) {
	rook := func(i, k int) bool { return i != k && (i/4 == k/4 || i%4 == k%4) }
	shrikhande := func(i, k int) bool {
		x, y := (i/4-k/4+4)%4, (i%4-k%4+4)%4
		return slices.Contains([]int{1, 3, 4, 12, 5, 15}, 4*x+y)
	}
	prism := func(i, k int) bool { return i/3 == k/3 && i != k || i%3 == k%3 && i != k }
	bipartite := func(i, k int) bool { return i%2 != k%2 }
	for _, both := range []struct {
		nodes         int
		first, second func(i, k int) bool
	}{{16, rook, shrikhande}, {6, prism, bipartite}} {
		a, b := unjoined("X", both.nodes, both.first), unjoined("Y", both.nodes, both.second)
		if len(a.Body) != len(b.Body) {
			t.Fatalf("%d edges and %d", len(a.Body), len(b.Body))
		}
		wantAllAlike(t, "two", a, b, false)
		wantAllAlike(t, "the first", a, a, true)
		wantAllAlike(t, "the second", b, b, true)
	}
}

// Graphs whose nodes have two edges out and two in each, by two drawn ways round: no node is told from another one at first sight, and what is tried may have to be taken back.
func TestDrawnRegularGraphs(t *testing.T) {
	d := drawer{r: rand.New(rand.NewSource(170))}
	alike, others := 0, 0
	for range 700 {
		nodes := 4 + d.r.Intn(4)
		a, b := d.regular(nodes), d.regular(nodes)
		if wanted := areOneGraph(nodes, a, b); wanted {
			alike++
			wantAllAlike(t, "drawn "+say(a)+say(b), graphOf("X", a), graphOf("Y", b), true)
		} else {
			others++
			wantAllAlike(t, "drawn "+say(a)+say(b), graphOf("X", a), graphOf("Y", b), false)
		}
		wantAllAlike(t, "drawn "+say(a), graphOf("X", a), drawnAnew(graphOf("X", a), 171), true)
		// Two of them in one rule, in one order and in the other.
		both, turned := append(graphOf("X", a).Body, graphOf("Y", b).Body...), append(graphOf("Z", b).Body, graphOf("W", a).Body...)
		wantAllAlike(t, "two drawn", rule(atom("p"), both...), rule(atom("p"), turned...), true)
		twice := append(graphOf("Z", b).Body, graphOf("W", b).Body...)
		wantAllAlike(t, "two drawn, one twice", rule(atom("p"), both...), rule(atom("p"), twice...), areOneGraph(nodes, a, b))
	}
	if alike < 10 || others < 100 {
		t.Errorf("met %d alike, %d others", alike, others)
	}
}

// regular is for each of so many nodes to which two it goes.
func (d drawer) regular(nodes int) [][2]int {
	first, second := d.r.Perm(nodes), d.r.Perm(nodes)
	var edges [][2]int
	for i := range nodes {
		edges = append(edges, [2]int{min(first[i], second[i]), max(first[i], second[i])})
	}
	return edges
}

func graphOf(prefix string, edges [][2]int) api.Rule {
	r := rule(atom("p"))
	for i, to := range edges {
		r.Body = append(r.Body, positive("e", name(prefix, i), name(prefix, to[0])), positive("e", name(prefix, i), name(prefix, to[1])))
	}
	return r
}

// areOneGraph tries all ways to put the nodes of the one in the places of the other's.
func areOneGraph(nodes int, a, b [][2]int) bool {
	var to []int
	var next func() bool
	fits := func(i int) bool {
		for k := range to {
			if slices.Contains(a[i][:], k) != slices.Contains(b[to[i]][:], to[k]) || slices.Contains(a[k][:], i) != slices.Contains(b[to[k]][:], to[i]) {
				return false
			}
		}
		return true
	}
	next = func() bool {
		if len(to) == nodes {
			return true
		}
		for node := range nodes {
			if slices.Contains(to, node) {
				continue
			}
			to = append(to, node)
			if fits(len(to)-1) && next() {
				return true
			}
			to = to[:len(to)-1]
		}
		return false
	}
	return next()
}

// Drawn graphs, of which the one covers the other just by some of the ways that are to be tried.
func TestDrawnGraphs(t *testing.T) {
	for seed, sizes := range [][4]int{{5, 8, 5, 12}, {7, 11, 6, 15}, {8, 14, 7, 24}, {9, 14, 6, 18}} {
		d := drawer{r: rand.New(rand.NewSource(int64(180 + seed)))}
		covered, others := 0, 0
		for range 1000 {
			a, b := d.graph(sizes[0], sizes[1]), d.graph(sizes[2], sizes[3])
			wanted := isMapped(sizes[0], a, sizes[2], b)
			if wanted {
				covered++
			} else {
				others++
			}
			if Covers(edgesOf("X", a), edgesOf("Y", b)) != wanted {
				t.Errorf("of the graphs %v and %v Covers is %v", a, b, !wanted)
			}
		}
		if covered < 50 || others < 50 {
			t.Errorf("%v: met %d covered, %d others", sizes, covered, others)
		}
	}
}

// graph has edges that go from one node to another one; as far as there are edges, one goes from each node.
func (d drawer) graph(nodes, edges int) [][2]int {
	var all [][2]int
	for i := range edges {
		all = append(all, [2]int{i % nodes, (i + 1 + d.r.Intn(nodes-1)) % nodes})
	}
	return all
}

func edgesOf(prefix string, edges [][2]int) api.Rule {
	r := rule(atom("p"))
	for _, edge := range edges {
		r.Body = append(r.Body, positive("e", name(prefix, edge[0]), name(prefix, edge[1])))
	}
	return r
}

// isMapped tries all nodes of the one graph for each of the other, so that each edge falls on one.
func isMapped(nodes int, a [][2]int, others int, b [][2]int) bool {
	var to []int
	falls := func(edge [2]int) bool {
		return max(edge[0], edge[1]) >= len(to) || slices.Contains(b, [2]int{to[edge[0]], to[edge[1]]})
	}
	var next func() bool
	next = func() bool {
		for _, edge := range a {
			if !falls(edge) {
				return false
			}
		}
		if len(to) == nodes {
			return true
		}
		for node := range others {
			to = append(to, node)
			if next() {
				return true
			}
			to = to[:len(to)-1]
		}
		return false
	}
	return next()
}

// Parts that hang together with nothing else: they fit in any order.
func TestManyParts(t *testing.T) {
	parts := func(prefix string, kinds ...int) api.Rule {
		r := rule(atom("p", "Hub"))
		for i, kind := range kinds {
			inner := joined(prefix+strconv.Itoa(i)+"_", 6, ring(6))
			if kind == 0 {
				inner = joined(prefix+strconv.Itoa(i)+"_", 6, func(i, k int) bool { return i/3 == k/3 && k%3 == (i+1)%3 })
			}
			r.Body = append(r.Body, inner.Body...)
			for k := range 6 {
				r.Body = append(r.Body, positive("hub", "Hub", name(prefix+strconv.Itoa(i)+"_", k)))
			}
		}
		return r
	}
	wantAllAlike(t, "in another order", parts("X", 0, 1, 1, 0, 1, 0, 0, 1), parts("Y", 1, 1, 1, 1, 0, 0, 0, 0), true)
	wantAllAlike(t, "one of another kind", parts("X", 0, 1, 1, 0, 1, 0, 0, 1), parts("Y", 1, 1, 0, 1, 0, 0, 0, 0), false)
	wantCovered(t, "of one kind in the other", parts("X", 1, 1, 1, 1), parts("Y", 0), true)
	wantCovered(t, "of one kind in the other", parts("X", 0), parts("Y", 1, 1, 1, 1), false)
}

// The document's bounds: as many terms, literals and variables as there may be in form.
func TestTheGreatestRuleInForm(t *testing.T) {
	wide := func(prefix string, from int) []string {
		var names []string
		for i := range api.MaxArity {
			names = append(names, name(prefix, from+i))
		}
		return names
	}
	r := rule(atom("p", wide("X", 0)...))
	for i := range api.MaxBody {
		r.Body = append(r.Body, positive("q", wide("X", i*(api.MaxArity-1))...))
	}
	long := strings.Repeat("v", api.MaxName-8)
	for _, place := range places(&r) {
		if place.Var {
			place.Text = "X" + long + place.Text
		}
	}
	q := drawnAnew(r, 7)
	wantSameRule(t, "Rule", r, Rule(r), plainRename(plainBody(r)))
	if !Alike(r, q) || !Covers(r, q) || !Covers(q, r) || len(Vars(r)) != 1+api.MaxBody*(api.MaxArity-1) {
		t.Errorf("Alike %v, Covers %v, %v, %d variables", Alike(r, q), Covers(r, q), Covers(q, r), len(Vars(r)))
	}
	last := &q.Body[api.MaxBody/2].Atom.Args
	(*last)[0], (*last)[1] = (*last)[1], (*last)[0]
	if Alike(r, q) || Covers(r, q) || Covers(q, r) {
		t.Errorf("with two terms exchanged: Alike %v, Covers %v, %v", Alike(r, q), Covers(r, q), Covers(q, r))
	}
	p := api.Program{Rules: []api.Rule{q, r, drawnAnew(r, 8), q}}
	if thin := Thin(p); !same(copyProgram(thin), copyProgram(api.Program{Rules: p.Rules[:2]})) {
		t.Errorf("Thin leaves %d rules", len(thin.Rules))
	}
}

// Far beyond form.
func TestHugeRules(t *testing.T) {
	const count = 8000
	for what, literal := range map[string]func(i int) api.Literal{
		"apart":      func(i int) api.Literal { return positive("q", name("X", i)) },
		"predicates": func(i int) api.Literal { return positive(name("q", i), name("X", i), name("X", i+1)) },
		"constants":  func(i int) api.Literal { return negative("q", name("a", i), name("X", i)) },
		"a star":     func(i int) api.Literal { return positive("q", "X", name("X", i)) },
		"the same":   func(i int) api.Literal { return unlike("X", "Y") },
	} {
		r := rule(atom("p", "X0"))
		for i := range count {
			r.Body = append(r.Body, literal(i))
		}
		q := drawnAnew(r, 11)
		many := count
		if what == "the same" {
			many = 1
		}
		if body := Body(q).Body; len(body) != many || !slices.IsSortedFunc(body, plainCompare) {
			t.Errorf("%s: Body has %d literals, or they don't rise", what, len(body))
		}
		if !Alike(r, q) || !Covers(r, q) || !Covers(q, r) {
			t.Errorf("%s: Alike %v, Covers %v, %v", what, Alike(r, q), Covers(r, q), Covers(q, r))
		}
		q.Body[count/2] = positive("other")
		if Alike(r, q) || Covers(q, r) {
			t.Errorf("%s, with another literal: Alike %v, Covers %v", what, Alike(r, q), Covers(q, r))
		}
	}
	wide := rule(atom("p"))
	for i := range count {
		wide.Head.Args = append(wide.Head.Args, variable(name("X", i/2)), constant("a"))
	}
	wide.Body = []api.Literal{{Kind: api.Negative, Atom: wide.Head}}
	if q := Rename(wide); !Alike(wide, q) || !Covers(wide, q) || Vars(q)[count/2-1] != name("V", count/2-1) {
		t.Errorf("of many terms: Alike %v, Covers %v", Alike(wide, q), Covers(wide, q))
	}
}

func TestHugePrograms(t *testing.T) {
	const count = 8000
	for what, one := range map[string]func(i int) api.Rule{
		"facts":      func(i int) api.Rule { return rule(atom("p", name("a", i), "b")) },
		"constants":  func(i int) api.Rule { return rule(atom("p", "X"), positive("q", "X", name("a", i))) },
		"predicates": func(i int) api.Rule { return rule(atom("p", "X"), positive(name("q", i), "X")) },
		"unlike":     func(i int) api.Rule { return rule(atom("p", "X"), positive("q", "X"), unlike("X", name("a", i))) },
	} {
		var p api.Program
		for i := range count {
			p.Rules = append(p.Rules, one(i))
		}
		if got := Thin(p); !same(copyProgram(got), copyProgram(p)) {
			t.Errorf("%s: Thin leaves %d rules", what, len(got.Rules))
		}
		for i := range count {
			p.Rules = append(p.Rules, drawnAnew(one(count-1-i), int64(i)))
		}
		if got := Thin(p); !same(copyProgram(got), copyProgram(api.Program{Rules: p.Rules[:count]})) {
			t.Errorf("%s, all twice: Thin leaves %d rules", what, len(got.Rules))
		}
		got := Program(p).Rules
		if !slices.IsSortedFunc(got, plainCompareRules) || len(got) != count {
			t.Errorf("%s, all twice: Program has %d rules", what, len(got))
		}
	}
}
