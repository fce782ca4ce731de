package tests

import (
	"fmt"
	"math"
	"slices"
	"testing"

	"loop.example/g01298/impl"
)

// rolledSimple returns a simple graph, its edges in any order and either way round.
func rolledSimple(d *dice, size int64, edges int64) impl.Graph {
	var pairs [][]int64
	for i := range size {
		for j := range i {
			pairs = slices.Insert(pairs, int(d.below(int64(len(pairs))+1)), []int64{i, j})
		}
	}
	g := impl.Graph{Size: size, Edges: pairs[:min(int(edges), len(pairs))]}
	for _, e := range g.Edges {
		if d.below(2) == 0 {
			slices.Reverse(e)
		}
	}
	return copyOfGraph(g)
}

// joined reports whether a graph has an edge with two vertices.
func joined(g impl.Graph, a int64, b int64) bool {
	return slices.ContainsFunc(g.Edges, func(e []int64) bool {
		return e[0] == a && e[1] == b || e[0] == b && e[1] == a
	})
}

// handSimple reports whether a graph is simple: no edge is a loop, or equal to the next one in order.
func handSimple(g impl.Graph) bool {
	edges := edgeOrder(g)
	return !hasLoop(g) && len(slices.Compact(slices.Clone(edges))) == len(edges)
}

// handComplement returns the edges of the complement of a simple graph.
func handComplement(g impl.Graph) [][]int64 {
	var edges [][]int64
	for i := range g.Size {
		for j := i + 1; j < g.Size; j++ {
			if !joined(g, i, j) {
				edges = append(edges, []int64{i, j})
			}
		}
	}
	return edges
}

// neighboursIn returns the vertices of a set that are neighbours of v.
func neighboursIn(g impl.Graph, set []int64, v int64) []int64 {
	var neighbours []int64
	for _, w := range set {
		if joined(g, v, w) {
			neighbours = append(neighbours, w)
		}
	}
	return neighbours
}

// handSwitches reports whether a set switches a simple graph, and the vertices with half of it.
func handSwitches(g impl.Graph, set []int64) (bool, []int64) {
	inside := map[int]bool{}
	var halves []int64
	for v := range g.Size {
		n := len(neighboursIn(g, set, v))
		if slices.Contains(set, v) {
			inside[n] = true
			continue
		}
		if n+n == len(set) && n > 0 {
			halves = append(halves, v)
		} else if n > 0 && n < len(set) {
			return false, nil
		}
	}
	return len(inside) < 2, halves
}

// handSwitched returns the switched graph of a set that switches, by the edges of the vertices with
// half of it.
func handSwitched(g impl.Graph, set []int64, halves []int64) impl.Graph {
	h := impl.Graph{Size: g.Size}
	for _, e := range g.Edges {
		if !(slices.Contains(halves, e[0]) && slices.Contains(set, e[1]) || slices.Contains(halves, e[1]) && slices.Contains(set, e[0])) {
			h.Edges = append(h.Edges, e)
		}
	}
	for _, v := range halves {
		for _, w := range set {
			if !joined(g, v, w) {
				h.Edges = append(h.Edges, []int64{v, w})
			}
		}
	}
	return ordered(h)
}

// vertexSets returns all ascending lists of vertices.
func vertexSets(size int64) [][]int64 {
	sets := [][]int64{nil}
	for v := range size {
		for _, set := range sets {
			sets = append(sets, append(slices.Clone(set), v))
		}
	}
	return sets
}

// simpleSamples returns all simple graphs with up to 4 vertices, and rolled ones with more.
func simpleSamples() []impl.Graph {
	var graphs []impl.Graph
	for size := int64(1); size <= 4; size++ {
		graphs = append(graphs, simpleGraphs(size)...)
	}
	d := dice(87)
	for size := int64(5); size <= impl.MaxVertices; size++ {
		for edges := range int64(impl.MaxEdges + 1) {
			for range 4 {
				graphs = append(graphs, rolledSimple(&d, size, edges))
			}
		}
	}
	return graphs
}

func TestSimpleGraphs(t *testing.T) {
	found := map[bool]int{}
	for _, g := range append(spectraGraphs(t), simpleSamples()...) {
		want := handSimple(g)
		yes, code := impl.IsSimple(g)
		checkYes(t, fmt.Sprint("IsSimple ", g), yes, code, want)
		found[want]++
	}
	if found[true] < 100 || found[false] < 100 {
		t.Errorf("graphs that are simple, or not: %v", found)
	}
	for text, want := range map[string]bool{
		"1:": true, "8:": true, "2:0-1": true, "2:1-0": true, "3:0-1,1-2,2-0": true, "4:0-1,0-2,0-3,1-2,1-3,2-3": true,
		"8:0-1,1-2,2-3,3-4,4-5,5-6,6-7,7-0,0-4,2-6": true,
		"1:0-0":         false,
		"8:7-7":         false,
		"2:0-1,0-1":     false,
		"2:0-1,1-0":     false,
		"2:0-1,1-1":     false,
		"3:0-1,1-2,2-1": false,
		"8:0-1,1-2,2-3,3-4,4-5,5-6,6-7,7-0,0-4,4-0": false,
		"8:0-1,1-2,2-3,3-4,4-5,5-6,6-7,7-0,0-4,5-5": false,
	} {
		yes, code := impl.IsSimple(parsed(t, text))
		checkYes(t, "IsSimple "+text, yes, code, want)
	}
}

func TestComplements(t *testing.T) {
	found := map[int64]int{}
	for _, g := range append(spectraGraphs(t), simpleSamples()...) {
		what := fmt.Sprint("ComplementOf ", g)
		want := int64(impl.ErrNone)
		edges := handComplement(g)
		switch {
		case !handSimple(g):
			want = impl.ErrState
		case len(edges) > impl.MaxEdges:
			want = impl.ErrLimit
		}
		found[want]++
		h, code := impl.ComplementOf(g)
		sameCode(t, what, code, want)
		if want != impl.ErrNone {
			same(t, what, h, impl.Graph{})
			continue
		}
		same(t, what, h, impl.Graph{Size: g.Size, Edges: edges})
		checkComplement(t, what, g, h)
	}
	for code, n := range found {
		if n < 50 {
			t.Errorf("only %d graphs with the code %d", n, code)
		}
	}
}

// checkComplement checks that the complement of the complement is the graph with its edges in order,
// and that both have the same automorphisms.
func checkComplement(t *testing.T, what string, g impl.Graph, h impl.Graph) {
	t.Helper()
	same(t, what, handSimple(h), true)
	same(t, what, int64(len(g.Edges)+len(h.Edges)), g.Size*(g.Size-1)/2)
	back, code := impl.ComplementOf(h)
	sameCode(t, what, code, impl.ErrNone)
	same(t, what, back, ordered(g))
	yes, code := impl.AreIsomorphic(g, back)
	checkYes(t, what, yes, code, true)
	same(t, what, number(t, impl.CountAutomorphisms, h), number(t, impl.CountAutomorphisms, g))
}

func TestComplementsByText(t *testing.T) {
	for text, want := range map[string]string{
		"1:":                                    "1:",
		"2:":                                    "2:0-1",
		"2:1-0":                                 "2:",
		"3:0-1,1-2":                             "3:0-2",
		"3:2-1":                                 "3:0-1,0-2",
		"3:0-1,1-2,2-0":                         "3:",
		"4:":                                    "4:0-1,0-2,0-3,1-2,1-3,2-3",
		"4:0-1,1-2,2-3,3-0":                     "4:0-2,1-3",
		"4:0-1,0-2,0-3":                         "4:1-2,1-3,2-3",
		"5:0-1,1-2,2-3,3-4,4-0":                 "5:0-2,0-3,1-3,1-4,2-4",
		"6:0-3,0-4,0-5,1-3,1-4,1-5,2-3,2-4,2-5": "6:0-1,0-2,1-2,3-4,3-5,4-5",
		"6:5-4,3-4,0-3,1-4,2-5,5-3,2-0,1-2,0-1": "6:0-4,0-5,1-3,1-5,2-3,2-4",
		"5:4-3,4-2,4-1,4-0,3-2,3-1,3-0,2-1,2-0,1-0": "5:",
		// As many edges as a graph can have.
		"5:":                    "5:0-1,0-2,0-3,0-4,1-2,1-3,1-4,2-3,2-4,3-4",
		"6:0-1,0-2,0-3,0-4,0-5": "6:1-2,1-3,1-4,1-5,2-3,2-4,2-5,3-4,3-5,4-5",
		"6:0-5,1-5,2-5,3-5,4-0": "6:0-1,0-2,0-3,1-2,1-3,1-4,2-3,2-4,3-4,4-5",
	} {
		h, code := impl.ComplementOf(parsed(t, text))
		sameCode(t, "ComplementOf "+text, code, impl.ErrNone)
		same(t, "ComplementOf "+text, h, parsed(t, want))
	}
	for text, want := range map[string]int64{
		// One edge too many.
		"6:0-1,0-2,0-3,0-4":                         impl.ErrLimit,
		"7:0-1,0-2,0-3,0-4,0-5,0-6,1-2,2-3,3-4,4-5": impl.ErrLimit,
		"6:": impl.ErrLimit, "7:": impl.ErrLimit, "8:": impl.ErrLimit,
		"8:0-1,1-2,2-3,3-4,4-5,5-6,6-7,7-0,0-4,2-6": impl.ErrLimit,
		"1:0-0": impl.ErrState, "2:0-1,1-0": impl.ErrState, "3:0-1,0-1": impl.ErrState, "5:4-4": impl.ErrState,
		// A graph that is not simple is found before too many edges are.
		"8:0-0": impl.ErrState, "8:0-1,1-0": impl.ErrState, "6:0-1,0-1": impl.ErrState,
	} {
		h, code := impl.ComplementOf(parsed(t, text))
		sameCode(t, "ComplementOf "+text, code, want)
		same(t, "ComplementOf "+text, h, impl.Graph{})
	}
}

// switching tells how often sets were met that do not switch, that change nothing, that have vertices
// with half of them, and switched graphs that are not isomorphic.
type switching struct {
	refused, still, changed, others int
}

// checkSwitch checks what is told of a simple graph and a set.
func (s *switching) checkSwitch(t *testing.T, g impl.Graph, set []int64) {
	t.Helper()
	switches, halves := handSwitches(g, set)
	if yes, code := impl.DoesSwitch(g, set); yes != switches || code != impl.ErrNone {
		t.Errorf("DoesSwitch of %v and %v: got %v and code %d", g, set, yes, code)
	}
	h, code := impl.SwitchGraph(g, set)
	if !switches {
		s.refused++
		if code != impl.ErrState || h.Size != 0 || len(h.Edges) > 0 {
			t.Errorf("SwitchGraph of %v and %v: got %v and code %d", g, set, h, code)
		}
		return
	}
	if code != impl.ErrNone {
		t.Errorf("SwitchGraph of %v and %v: code %d", g, set, code)
	}
	what := fmt.Sprint("SwitchGraph of ", g, " and ", set)
	same(t, what, h, handSwitched(g, set, halves))
	if len(halves) == 0 {
		s.still++
		return
	}
	s.changed++
	s.checkSwitched(t, what, g, h, set)
}

// checkSwitched checks that a switched graph has the same spectrum, and is switched back.
func (s *switching) checkSwitched(t *testing.T, what string, g impl.Graph, h impl.Graph, set []int64) {
	t.Helper()
	first, code := impl.SpectrumOf(g)
	sameCode(t, what, code, impl.ErrNone)
	second, code := impl.SpectrumOf(h)
	sameCode(t, what, code, impl.ErrNone)
	same(t, what, second, first)
	yes, code := impl.DoesSwitch(h, set)
	checkYes(t, what, yes, code, true)
	back, code := impl.SwitchGraph(h, set)
	sameCode(t, what, code, impl.ErrNone)
	same(t, what, back, ordered(g))
	if yes, _ := impl.AreIsomorphic(g, h); !yes {
		s.others++
	}
}

// rolledSwitch returns a simple graph with a set of four vertices that switches it.
func rolledSwitch(d *dice) (impl.Graph, []int64) {
	inside := []string{"4:", "4:0-1,2-3", "4:0-1,1-2,2-3,3-0"}
	g, _ := impl.ParseGraph(inside[d.below(int64(len(inside)))])
	g.Size = d.between(6, impl.MaxVertices)
	for v := int64(4); v < g.Size; v++ {
		for _, w := range rolledMap(d, 4)[:2*d.below(3)] {
			g.Edges = append(g.Edges, []int64{v, w})
		}
		for w := int64(4); w < v; w++ {
			if d.below(3) == 0 {
				g.Edges = append(g.Edges, []int64{v, w})
			}
		}
	}
	list := rolledMap(d, g.Size)
	return handRenumbered(g, list), slices.Sorted(slices.Values(list[:4]))
}

func TestSwitchedGraphsHaveTheSameSpectrum(t *testing.T) {
	var s switching
	d := dice(88)
	for range 4000 {
		if g, set := rolledSwitch(&d); len(g.Edges) <= impl.MaxEdges {
			s.checkSwitch(t, g, set)
		}
	}
	for _, g := range append(simpleSamples(), simpleGraphs(5)...) {
		for _, set := range vertexSets(g.Size) {
			s.checkSwitch(t, g, set)
		}
	}
	if s.refused < 1000 || s.still < 1000 || s.changed < 1000 || s.others < 5 {
		t.Errorf("sets of all kinds: %v", s)
	}
}

func TestSwitchedGraphsByText(t *testing.T) {
	for _, c := range []struct {
		text string
		set  []int64
		want string
	}{
		{"1:", nil, "1:"},
		{"1:", []int64{0}, "1:"},
		{"8:", []int64{0, 1, 2, 3, 4, 5, 6, 7}, "8:"},
		// The empty set and single vertices change nothing but the order of the edges.
		{"3:2-1,1-0", nil, "3:0-1,1-2"},
		{"3:2-1,1-0", []int64{1}, "3:0-1,1-2"},
		{"4:0-3,2-0,0-1", []int64{2}, "4:0-1,0-2,0-3"},
		// A vertex outside has one of two, and then the other one.
		{"3:0-1", []int64{0, 2}, "3:1-2"},
		{"3:1-0,0-2", []int64{0, 2}, "3:0-2,1-2"},
		{"3:0-1,2-1", []int64{0, 2}, "3:0-1,1-2"},
		{"4:0-2,1-3", []int64{0, 1}, "4:0-3,1-2"},
		{"4:2-0,3-0,3-1,3-2", []int64{0, 1}, "4:0-3,1-2,1-3,2-3"},
		// All vertices, of a graph that is regular.
		{"4:3-0,2-3,1-2,0-1", []int64{0, 1, 2, 3}, "4:0-1,0-3,1-2,2-3"},
		// A square, and vertices outside with half of it, with none of it, and with all.
		{"5:0-1,1-2,2-3,3-0,4-0,4-1", []int64{0, 1, 2, 3}, "5:0-1,0-3,1-2,2-3,2-4,3-4"},
		{"7:0-1,1-2,2-3,3-0,4-0,4-2,6-0,6-1,6-2,6-3", []int64{0, 1, 2, 3}, "7:0-1,0-3,0-6,1-2,1-4,1-6,2-3,2-6,3-4,3-6"},
		{"6:4-0,4-1,5-1,5-2", []int64{0, 1, 2, 3}, "6:0-5,2-4,3-4,3-5"},
		// These are not isomorphic.
		{"7:2-5,1-4,0-6,4-6,2-4,1-3", []int64{0, 3, 4, 5}, "7:0-1,0-2,1-5,2-3,3-6,5-6"},
		{"8:0-1,1-5,0-2,5-7,4-5,3-5,2-3,3-4", []int64{1, 2, 4, 6}, "8:0-4,0-6,1-3,2-5,3-5,3-6,5-6,5-7"},
		{"8:0-7,1-7,2-7", []int64{0, 1, 2, 3, 4, 5}, "8:3-7,4-7,5-7"},
		// As many edges as a graph can have.
		{"8:0-2,0-3,0-4,1-5,1-6,7-1,2-3,4-5,6-7,2-7", []int64{0, 1}, "8:0-5,0-6,0-7,1-2,1-3,1-4,2-3,2-7,4-5,6-7"},
		{"8:0-4,1-4,0-5,2-5,1-6,3-6,2-7,3-7,4-5,6-7", []int64{0, 1, 2, 3}, "8:0-6,0-7,1-5,1-7,2-4,2-6,3-4,3-5,4-5,6-7"},
	} {
		g := parsed(t, c.text)
		what := fmt.Sprint("SwitchGraph of ", c.text, " and ", c.set)
		yes, code := impl.DoesSwitch(g, c.set)
		checkYes(t, what, yes, code, true)
		h, code := impl.SwitchGraph(g, c.set)
		sameCode(t, what, code, impl.ErrNone)
		same(t, what, h, parsed(t, c.want))
	}
}

func TestSetsThatDoNotSwitch(t *testing.T) {
	for _, c := range []struct {
		text string
		set  []int64
	}{
		// Not equally many neighbours in the set.
		{"3:0-1,1-2", []int64{0, 1, 2}},
		{"3:0-1", []int64{0, 1, 2}},
		{"8:0-1,1-2,2-3,3-4,4-5,5-6,6-7", []int64{0, 1, 2, 3, 4, 5, 6, 7}},
		{"4:2-3,3-1", []int64{1, 2, 3}},
		// A third, two thirds, a quarter, three quarters.
		{"4:3-0", []int64{0, 1, 2}},
		{"4:0-3,1-3", []int64{0, 1, 2}},
		{"5:4-1", []int64{0, 1, 2, 3}},
		{"5:4-1,4-2,4-3", []int64{0, 1, 2, 3}},
		{"8:0-7,1-7", []int64{0, 1, 2, 3, 4, 5}},
		{"8:0-7,1-7,2-7,3-7", []int64{0, 1, 2, 3, 4, 5}},
		{"8:0-7,1-7,2-7,3-7,0-6", []int64{0, 1, 2, 3}},
		{"5:0-2", []int64{0, 1, 3, 4}},
	} {
		g := parsed(t, c.text)
		what := fmt.Sprint(" of ", c.text, " and ", c.set)
		yes, code := impl.DoesSwitch(g, c.set)
		checkYes(t, "DoesSwitch"+what, yes, code, false)
		h, code := impl.SwitchGraph(g, c.set)
		sameCode(t, "SwitchGraph"+what, code, impl.ErrState)
		same(t, "SwitchGraph"+what, h, impl.Graph{})
	}
}

// checkSetCode checks that a graph and a set are refused with a code.
func checkSetCode(t *testing.T, g impl.Graph, set []int64, want int64) {
	t.Helper()
	what := fmt.Sprint(" of ", g.Size, len(g.Edges), set)
	yes, code := impl.DoesSwitch(g, set)
	sameCode(t, "DoesSwitch"+what, code, want)
	same(t, "DoesSwitch"+what, yes, false)
	h, code := impl.SwitchGraph(g, set)
	sameCode(t, "SwitchGraph"+what, code, want)
	same(t, "SwitchGraph"+what, h, impl.Graph{})
}

// refusedSets returns lists that are no ascending lists of different ones of n vertices.
func refusedSets(n int64) [][]int64 {
	lists := [][]int64{filled(1000, 0), {math.MinInt64, 0}, {0, math.MaxInt64}, {math.MinInt64, math.MaxInt64}, {0, math.MinInt64},
		{math.MaxInt64, math.MinInt64}, {math.MaxInt64, math.MaxInt64}}
	for v := range n {
		for w := range v + 1 {
			lists = append(lists, []int64{v, w})
			for last := v; last < n; last++ {
				lists = append(lists, []int64{v, w, last}, []int64{w, last, v})
			}
		}
		for _, number := range append(outside(n), math.MinInt64+1, 1<<32+v, -v-1) {
			lists = append(lists, []int64{number}, []int64{v, number}, []int64{number, v})
		}
	}
	var all []int64
	for v := range n + 1 {
		all = append(all, v)
	}
	return append(lists, all, append(slices.Clone(all[:n]), n-1), append(slices.Clone(all[:n]), 0), append([]int64{-1}, all[:n]...))
}

// isSet reports whether a list is an ascending one of different ones of n vertices.
func isSet(list []int64, n int64) bool {
	return len(list) == 0 || list[0] >= 0 && list[len(list)-1] < n && slices.IsSorted(list) && len(slices.Compact(slices.Clone(list))) == len(list)
}

func TestSwitchingRefusesListsThatAreNoSets(t *testing.T) {
	for _, text := range []string{"1:", "1:0-0", "2:0-1", "2:0-1,0-1", "3:0-1,1-2,2-0", "4:", "6:0-1,1-2,2-0,3-4,4-5,5-3", "8:",
		"8:0-1,1-2,2-3,3-4,4-5,5-6,6-7,7-0,0-4,2-6", "8:0-1,1-2,2-3,3-4,4-5,5-6,6-7,7-0,0-4,6-6"} {
		g := parsed(t, text)
		for _, list := range refusedSets(g.Size) {
			// A list that is no set is found before a graph that is not simple.
			if !isSet(list, g.Size) {
				checkSetCode(t, g, list, impl.ErrRange)
			}
		}
	}
}

func TestSwitchingRefusesGraphsThatAreNotSimple(t *testing.T) {
	for _, g := range spectraGraphs(t) {
		if handSimple(g) {
			continue
		}
		for _, set := range [][]int64{nil, {0}, {g.Size - 1}, vertexSets(g.Size)[1<<g.Size-1]} {
			checkSetCode(t, g, set, impl.ErrState)
		}
	}
}

func TestSimpleFunctionsRefuseWhatIsNoGraph(t *testing.T) {
	for _, bad := range badGraphs() {
		what := fmt.Sprint(" of ", bad.Size, len(bad.Edges))
		yes, code := impl.IsSimple(bad)
		sameCode(t, "IsSimple"+what, code, impl.ErrInvalid)
		same(t, "IsSimple"+what, yes, false)
		h, code := impl.ComplementOf(bad)
		sameCode(t, "ComplementOf"+what, code, impl.ErrInvalid)
		same(t, "ComplementOf"+what, h, impl.Graph{})
		// What is no graph is found before a list that is no set.
		for _, set := range [][]int64{nil, {0}, {0, 1}, {1, 0}, {0, 0}, {-1}, {math.MaxInt64}, {math.MinInt64}, filled(1000, 0)} {
			checkSetCode(t, bad, set, impl.ErrInvalid)
		}
	}
}

// checkOwnGraph fails the test if edges of a graph share memory with each other, or with what the
// function is given: it has to return the same after its result was overwritten.
func checkOwnGraph(t *testing.T, what string, f func() (impl.Graph, int64)) {
	t.Helper()
	h, code := f()
	before := fmt.Sprint(h, code)
	ownRows(t, what, h.Edges)
	again, code := f()
	same(t, what, fmt.Sprint(again, code), before)
}

func TestSwitchingResultsShareNoMemory(t *testing.T) {
	for _, sample := range append(spectraGraphs(t), simpleSamples()...) {
		g := roomyGraph(sample)
		before := wholeRows(g.Edges)
		impl.IsSimple(g)
		checkOwnGraph(t, "ComplementOf", func() (impl.Graph, int64) { return impl.ComplementOf(g) })
		sets := [][]int64{nil, {0}, {0, 1}, {0, 2}, {1, 2, 3}, {0, 1, 2, 3}, {1, 0}, {0, 0}, {-1, 9}, filled(21, 0), {math.MinInt64}}
		for _, list := range sets {
			set := roomy(list)
			memory := wholeMemory(set)
			impl.DoesSwitch(g, set)
			checkOwnGraph(t, "SwitchGraph", func() (impl.Graph, int64) { return impl.SwitchGraph(g, set) })
			same(t, fmt.Sprint("memory of ", list), wholeMemory(set), memory)
		}
		same(t, fmt.Sprint("memory of ", sample), wholeRows(g.Edges), before)
	}
}
