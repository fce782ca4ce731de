package tests

import (
	"fmt"
	"math"
	"slices"
	"testing"

	"loop.example/g01298/impl"
)

// orderedMaps returns all maps of n vertices, in lexicographic order.
func orderedMaps(n int64) [][]int64 {
	maps := arrangements(n)
	slices.SortFunc(maps, slices.Compare)
	return maps
}

// handRenumbered returns the renumbered graph of a map.
func handRenumbered(g impl.Graph, list []int64) impl.Graph {
	h := impl.Graph{Size: g.Size}
	for _, e := range g.Edges {
		h.Edges = append(h.Edges, []int64{list[e[0]], list[e[1]]})
	}
	return h
}

// edgeOrder returns the edges of a graph, each one from its lesser vertex on, in ascending order.
func edgeOrder(g impl.Graph) [][2]int64 {
	var edges [][2]int64
	for _, e := range g.Edges {
		edges = append(edges, [2]int64{min(e[0], e[1]), max(e[0], e[1])})
	}
	slices.SortFunc(edges, func(a [2]int64, b [2]int64) int { return slices.Compare(a[:], b[:]) })
	return edges
}

// ordered returns a graph with its edges in the order of edgeOrder.
func ordered(g impl.Graph) impl.Graph {
	h := impl.Graph{Size: g.Size}
	for _, e := range edgeOrder(g) {
		h.Edges = append(h.Edges, []int64{e[0], e[1]})
	}
	return h
}

// leads reports whether a map leads the edges of g to those of h.
func leads(g impl.Graph, h impl.Graph, list []int64) bool {
	return g.Size == h.Size && slices.Equal(edgeOrder(handRenumbered(g, list)), edgeOrder(h))
}

// handCode returns the code of a graph.
func handCode(g impl.Graph) []int64 {
	code := []int64{g.Size}
	for i := range g.Size {
		for j := range i + 1 {
			n := int64(0)
			for _, e := range directedEdges(g) {
				if e == [2]int64{i, j} {
					n++
				}
			}
			code = append(code, n)
		}
	}
	return code
}

// someMaps returns all maps of few vertices, and some of more: the one that leaves all, its reverse,
// one that leads all on, and rolled ones.
func someMaps(d *dice, n int64) [][]int64 {
	if n < 4 {
		return orderedMaps(n)
	}
	maps := make([][]int64, 3)
	for v := range n {
		maps[0] = append(maps[0], v)
		maps[1] = append(maps[1], n-1-v)
		maps[2] = append(maps[2], (v+1)%n)
	}
	return append(maps, rolledMap(d, n), rolledMap(d, n))
}

// rolledMap returns a rolled map of n vertices.
func rolledMap(d *dice, n int64) []int64 {
	var list []int64
	for v := range n {
		list = slices.Insert(list, int(d.below(v+1)), v)
	}
	return list
}

// alikeCase is a pair of graphs that are not isomorphic, and what they share.
type alikeCase struct {
	first, second              string
	size, spectrum, reciprocal bool
}

// alikeCases returns pairs of all kinds.
func alikeCases() []alikeCase {
	return []alikeCase{
		// These look alike.
		{"6:0-1,0-2,0-3,4-5", "6:0-1,1-2,2-3,3-4", true, true, true},
		{"6:5-0,3-5,5-0,5-2,4-1", "6:4-1,5-0,3-5,3-5,4-3", true, true, true},
		{"5:1-3,1-2,1-2,2-0,4-1,0-2", "5:0-4,1-0,2-0,0-2,4-3,1-0", true, true, true},
		{"4:2-3,1-1,3-3,2-2,2-3,0-1,0-1,1-0", "4:3-3,0-1,1-3,2-2,2-2,1-3,0-1,0-3", true, true, true},
		{"6:0-4,5-2,1-0,3-1,0-1,3-1,4-1,5-0", "6:2-1,0-4,2-5,1-2,2-0,3-1,5-0,2-5", true, true, true},
		{"8:0-1,0-2,0-3,4-5", "8:7-6,6-5,5-4,4-3", true, true, true},
		// These differ in the size alone.
		{"1:", "2:", false, true, true},
		{"1:", "8:", false, true, true},
		{"2:0-1", "3:0-1", false, true, true},
		{"3:0-1,1-2,2-0", "4:1-2,2-3,3-1", false, true, true},
		{"7:0-0", "8:7-7", false, true, true},
		{"6:0-1,0-2,0-3,4-5", "7:0-1,1-2,2-3,3-4", false, true, true},
		// These differ in the spectrum alone.
		{"3:0-1", "3:0-1,1-2", true, false, true},
		{"4:0-1,0-2,0-3", "4:0-1,1-2,2-3", true, false, true},
		{"4:0-1,1-2,2-0", "4:0-1,1-2,2-0,2-3", true, false, true},
		{"2:", "2:0-1", true, false, true},
		{"8:0-1,2-3,4-5,6-7", "8:0-1,1-2,2-3,3-4", true, false, true},
		{"2:0-0", "2:1-1,0-1", true, false, true},
		// These differ in the reciprocal alone.
		{"5:0-1,0-2,0-3,0-4", "5:0-1,1-2,2-3,3-0", true, true, false},
		{"7:0-1,0-2,1-5,2-3,3-6,5-6", "7:2-5,1-4,0-6,4-6,2-4,1-3", true, true, false},
		{"7:0-2,3-6,2-4,0-3,1-4,0-5,2-3", "7:0-1,0-3,0-6,1-3,3-5,4-5,4-6", true, true, false},
		{"8:0-1,1-5,0-2,5-7,4-5,3-5,2-3,3-4", "8:0-4,0-6,1-3,2-5,3-5,3-6,5-6,5-7", true, true, false},
		// These differ in two, or in all.
		{"1:0-0", "3:0-1,1-2,2-0", false, false, false},
		{"2:0-1", "3:0-1,1-2", false, false, true},
		{"5:0-1,0-2,0-3,0-4", "6:0-1,1-2,2-3,3-0", false, true, false},
		{"1:", "1:0-0", true, false, false},
		{"2:0-0,1-1", "2:0-1,0-1", true, false, false},
		// These have the same degrees.
		{"6:0-1,1-2,2-3,3-4,4-5,5-0", "6:0-1,1-2,2-0,3-4,4-5,5-3", true, false, false},
		{"6:0-1,1-2,2-0,3-4,4-5,5-3,0-3,1-4,2-5", "6:0-3,0-4,0-5,1-3,1-4,1-5,2-3,2-4,2-5", true, false, false},
		{"2:0-0,0-1,1-1", "2:0-1,0-1,0-1", true, false, false},
		{"3:0-0,1-1,2-2", "3:0-1,1-2,2-0", true, false, false},
		{"4:0-1,0-1,2-3,2-3", "4:0-1,1-2,2-3,3-0", true, false, false},
		{"6:0-1,1-2,2-3,3-4,2-5", "6:0-1,1-2,2-3,3-4,1-5", true, false, true},
		{"8:0-1,1-2,2-3,3-4,4-5,5-6,6-7,7-0", "8:0-1,1-2,2-3,3-0,4-5,5-6,6-7,7-4", true, false, false},
		{"8:0-1,1-2,2-3,3-4,4-5,5-6,6-7,7-0,0-4,2-6", "8:0-1,1-2,2-3,3-4,4-5,5-6,6-7,7-0,0-3,4-7", true, false, false},
		{"8:0-0,1-1,2-2,3-3,4-4,5-5,6-6,7-7", "8:0-1,1-0,2-3,3-2,4-5,5-4,6-7,7-6", true, false, false},
	}
}

// checkIsomorphic checks what is told of g and its renumbered graph of a map.
func checkIsomorphic(t *testing.T, g impl.Graph, list []int64) {
	t.Helper()
	what := fmt.Sprint(" of ", g, " and the map ", list)
	h, code := impl.RenumberGraph(g, list)
	sameCode(t, "RenumberGraph"+what, code, impl.ErrNone)
	same(t, "RenumberGraph"+what, h, handRenumbered(g, list))
	yes, code := impl.IsIsomorphism(g, h, list)
	checkYes(t, "IsIsomorphism"+what, yes, code, true)
	yes, code = impl.AreIsomorphic(g, h)
	checkYes(t, "AreIsomorphic"+what, yes, code, true)
	found, code := impl.FindIsomorphism(g, h)
	sameCode(t, "FindIsomorphism"+what, code, impl.ErrNone)
	if int64(len(found)) != g.Size || !leads(g, h, found) || slices.Compare(found, list) > 0 {
		t.Errorf("FindIsomorphism%s: got %v", what, found)
	}
	yes, code = impl.DoLookAlike(g, h)
	checkYes(t, "DoLookAlike"+what, yes, code, true)
	checkSameOfBoth(t, what, g, h)
}

// checkSameOfBoth checks what isomorphic graphs share.
func checkSameOfBoth(t *testing.T, what string, g impl.Graph, h impl.Graph) {
	t.Helper()
	for name, f := range map[string]func(impl.Graph) ([]int64, int64){
		"LeastCode": impl.LeastCode, "SpectrumOf": impl.SpectrumOf, "ReciprocalOf": impl.ReciprocalOf,
	} {
		want, code := f(g)
		list, other := f(h)
		sameCode(t, name+what, other, code)
		same(t, name+what, list, want)
		if name != "LeastCode" || g.Size <= 6 {
			sameCode(t, name+what, code, impl.ErrNone)
		}
	}
	same(t, "CountAutomorphisms"+what, number(t, impl.CountAutomorphisms, h), number(t, impl.CountAutomorphisms, g))
	simple, _ := impl.IsSimple(g)
	yes, code := impl.IsSimple(h)
	checkYes(t, "IsSimple"+what, yes, code, simple)
}

func TestRenumberedGraphsAreIsomorphicAndLookAlike(t *testing.T) {
	d := dice(81)
	for _, g := range spectraGraphs(t) {
		for _, list := range someMaps(&d, g.Size) {
			checkIsomorphic(t, g, list)
		}
	}
	for _, c := range alikeCases() {
		for _, text := range []string{c.first, c.second} {
			g := parsed(t, text)
			checkIsomorphic(t, g, rolledMap(&d, g.Size))
		}
	}
}

func TestIsomorphicGraphsAreToldWhateverTheOrderOfEdgesAndVertices(t *testing.T) {
	d := dice(82)
	for _, g := range spectraGraphs(t) {
		list := rolledMap(&d, g.Size)
		h := handRenumbered(g, list)
		for k := range h.Edges {
			j := d.below(int64(k) + 1)
			h.Edges[k], h.Edges[j] = h.Edges[j], h.Edges[k]
			if d.below(2) == 0 {
				slices.Reverse(h.Edges[j])
			}
		}
		what := fmt.Sprint(" of ", g, h)
		yes, code := impl.IsIsomorphism(g, h, list)
		checkYes(t, "IsIsomorphism"+what, yes, code, true)
		yes, code = impl.DoLookAlike(g, h)
		checkYes(t, "DoLookAlike"+what, yes, code, true)
		checkSameOfBoth(t, what, g, h)
	}
}

func TestIsomorphicDerivedGraphsLookAlike(t *testing.T) {
	d := dice(83)
	met := 0
	for _, g := range spectraGraphs(t) {
		for s := int64(2); s <= impl.MaxSheets; s++ {
			c := rolledCover(&d, g, s)
			derived, code := impl.DerivedGraph(c)
			if code != impl.ErrNone {
				continue
			}
			met++
			// The sheets above each vertex are numbered in another way.
			above := make([][]int64, g.Size)
			var list []int64
			for v := range above {
				above[v] = rolledMap(&d, s)
				for _, sheet := range above[v] {
					list = append(list, int64(v)*s+sheet)
				}
			}
			other := impl.Cover{Base: c.Base, Sheets: s, Turns: copyOfRows(c.Turns)}
			for k, e := range g.Edges {
				for i, sheet := range c.Turns[k] {
					other.Turns[k][above[e[0]][i]] = above[e[1]][sheet]
				}
			}
			what := fmt.Sprint("derived graphs of ", c, other)
			second, code := impl.DerivedGraph(other)
			sameCode(t, what, code, impl.ErrNone)
			same(t, what, int64(len(second.Edges)), s*int64(len(g.Edges)))
			yes, code := impl.IsIsomorphism(derived, second, list)
			checkYes(t, what, yes, code, true)
			yes, code = impl.AreIsomorphic(derived, second)
			checkYes(t, what, yes, code, true)
			yes, code = impl.DoLookAlike(derived, second)
			checkYes(t, what, yes, code, true)
		}
	}
	if met < 100 {
		t.Errorf("only %d derived graphs are within limits", met)
	}
}

// checkPairOfGraphs checks all that is told of two graphs of one size by all maps, given in
// lexicographic order, and returns whether there is an isomorphism.
func checkPairOfGraphs(t *testing.T, g impl.Graph, h impl.Graph, maps [][]int64) bool {
	t.Helper()
	var least []int64
	for _, list := range maps {
		want := leads(g, h, list)
		if want && least == nil {
			least = list
		}
		if yes, code := impl.IsIsomorphism(g, h, list); yes != want || code != impl.ErrNone {
			t.Errorf("IsIsomorphism of %v, %v and %v: got %v and code %d", g, h, list, yes, code)
		}
	}
	code := int64(impl.ErrNone)
	if least == nil {
		code = impl.ErrNotFound
	}
	if found, got := impl.FindIsomorphism(g, h); !slices.Equal(found, least) || got != code {
		t.Errorf("FindIsomorphism of %v and %v: got %v and code %d, want %v", g, h, found, got, least)
	}
	if yes, got := impl.AreIsomorphic(g, h); yes != (least != nil) || got != impl.ErrNone {
		t.Errorf("AreIsomorphic of %v and %v: got %v and code %d, want %v", g, h, yes, got, least)
	}
	return least != nil
}

// checkAllPairs checks all pairs of graphs of one size, of at most 6 vertices.
func checkAllPairs(t *testing.T, graphs []impl.Graph) {
	t.Helper()
	maps := orderedMaps(graphs[0].Size)
	var codes [][]int64
	for _, g := range graphs {
		list, code := impl.LeastCode(g)
		sameCode(t, "LeastCode", code, impl.ErrNone)
		codes = append(codes, list)
	}
	for i, g := range graphs {
		for j, h := range graphs {
			isomorphic := checkPairOfGraphs(t, g, h, maps)
			if isomorphic != slices.Equal(codes[i], codes[j]) {
				t.Errorf("least codes of %v and %v: %v and %v", g, h, codes[i], codes[j])
			}
			if alike, code := impl.DoLookAlike(g, h); isomorphic && !alike || code != impl.ErrNone {
				t.Errorf("DoLookAlike of %v and %v: got %v and code %d", g, h, alike, code)
			}
		}
	}
}

// simpleGraphs returns all simple graphs of a size.
func simpleGraphs(size int64) []impl.Graph {
	graphs := []impl.Graph{{Size: size}}
	for i := range size {
		for j := i + 1; j < size; j++ {
			for _, g := range graphs {
				more := copyOfGraph(g)
				more.Edges = append(more.Edges, []int64{i, j})
				graphs = append(graphs, more)
			}
		}
	}
	return graphs
}

func TestAllMapsOfAllPairsOfGraphs(t *testing.T) {
	checkAllPairs(t, smallGraphs(1, 4))
	checkAllPairs(t, smallGraphs(2, 3))
	checkAllPairs(t, smallGraphs(3, 2))
	checkAllPairs(t, simpleGraphs(3))
	checkAllPairs(t, simpleGraphs(4))
}

// turnedAround returns a graph with the same degrees: two of its edges change an end, some times.
func turnedAround(d *dice, g impl.Graph) impl.Graph {
	h := copyOfGraph(g)
	for range d.below(4) {
		if len(h.Edges) == 0 {
			break
		}
		a, b := h.Edges[d.below(int64(len(h.Edges)))], h.Edges[d.below(int64(len(h.Edges)))]
		i, j := d.below(2), d.below(2)
		a[i], b[j] = b[j], a[i]
	}
	return h
}

func TestAllMapsOfPairsWithTheSameDegrees(t *testing.T) {
	d := dice(84)
	found := map[bool]int{}
	for size := int64(2); size <= impl.MaxVertices; size++ {
		maps := orderedMaps(size)
		pairs := int64(60)
		if size > 6 {
			pairs = 6
		}
		for range pairs {
			g := rolledGraph(&d, size, d.between(1, impl.MaxEdges))
			h := handRenumbered(turnedAround(&d, g), rolledMap(&d, size))
			found[checkPairOfGraphs(t, g, h, maps)]++
		}
	}
	if found[true] < 50 || found[false] < 50 {
		t.Errorf("pairs that are isomorphic, or not: %v", found)
	}
}

func TestGraphsThatAreNotIsomorphic(t *testing.T) {
	d := dice(89)
	for _, c := range alikeCases() {
		for _, pair := range [][]string{{c.first, c.second}, {c.second, c.first}} {
			g, h := parsed(t, pair[0]), parsed(t, pair[1])
			what := fmt.Sprint(" of ", pair)
			list, code := impl.FindIsomorphism(g, h)
			sameCode(t, "FindIsomorphism"+what, code, impl.ErrNotFound)
			same(t, "FindIsomorphism"+what, list, []int64(nil))
			yes, code := impl.AreIsomorphic(g, h)
			checkYes(t, "AreIsomorphic"+what, yes, code, false)
			yes, code = impl.DoLookAlike(g, h)
			checkYes(t, "DoLookAlike"+what, yes, code, c.size && c.spectrum && c.reciprocal)
			yes, code = impl.AreEqualZetas(g, h)
			checkYes(t, "AreEqualZetas"+what, yes, code, c.reciprocal)
			first, code := impl.SpectrumOf(g)
			sameCode(t, "SpectrumOf"+what, code, impl.ErrNone)
			second, code := impl.SpectrumOf(h)
			sameCode(t, "SpectrumOf"+what, code, impl.ErrNone)
			same(t, "SpectrumOf"+what, slices.Equal(first, second), c.spectrum)
			same(t, "sizes"+what, g.Size == h.Size, c.size)
			one, _ := impl.LeastCode(g)
			other, _ := impl.LeastCode(h)
			same(t, "LeastCode"+what, g.Size <= 6 && slices.Equal(one, other), false)
			for _, list := range someMaps(&d, g.Size) {
				checkWrongMap(t, g, h, list, c.size)
			}
		}
	}
}

// checkWrongMap checks that a map of the vertices of g is no isomorphism to h, or, for graphs of
// different sizes, is refused.
func checkWrongMap(t *testing.T, g impl.Graph, h impl.Graph, list []int64, sameSize bool) {
	t.Helper()
	what := fmt.Sprint("IsIsomorphism of ", g, h, list)
	yes, code := impl.IsIsomorphism(g, h, list)
	if sameSize {
		checkYes(t, what, yes, code, false)
	} else {
		sameCode(t, what, code, impl.ErrRange)
		same(t, what, yes, false)
	}
}

func TestLookingAlikeIsSharingSizeSpectrumAndReciprocal(t *testing.T) {
	d := dice(85)
	found := map[bool]int{}
	var graphs []impl.Graph
	for _, g := range sampleGraphs() {
		if d.below(3) == 0 {
			graphs = append(graphs, g)
		}
	}
	for _, g := range graphs {
		for _, h := range graphs {
			first, _ := impl.SpectrumOf(g)
			second, _ := impl.SpectrumOf(h)
			one, _ := impl.ReciprocalOf(g)
			other, _ := impl.ReciprocalOf(h)
			want := g.Size == h.Size && slices.Equal(first, second) && slices.Equal(one, other)
			if alike, code := impl.DoLookAlike(g, h); alike != want || code != impl.ErrNone {
				t.Errorf("DoLookAlike of %v and %v: got %v and code %d", g, h, alike, code)
			}
			found[want]++
		}
	}
	// Each graph looks like itself; there are others.
	if found[true] < len(graphs)+20 || found[false] < len(graphs) {
		t.Errorf("pairs that look alike, or not: %v", found)
	}
}

func TestLeastIsomorphismsByText(t *testing.T) {
	for _, c := range []struct {
		first, second string
		want          []int64
	}{
		{"1:", "1:", []int64{0}},
		{"1:0-0,0-0", "1:0-0,0-0", []int64{0}},
		{"2:0-1", "2:1-0", []int64{0, 1}},
		{"8:", "8:", []int64{0, 1, 2, 3, 4, 5, 6, 7}},
		{"3:0-1,1-2,2-0", "3:1-0,2-1,0-2", []int64{0, 1, 2}},
		{"3:0-1,1-2", "3:0-1,0-2", []int64{1, 0, 2}},
		{"3:0-1,0-2", "3:0-1,1-2", []int64{1, 0, 2}},
		{"3:0-1,0-2", "3:0-2,1-2", []int64{2, 0, 1}},
		{"3:0-2,1-2", "3:0-1,0-2", []int64{1, 2, 0}},
		{"4:0-1,0-2,0-3", "4:3-0,3-1,3-2", []int64{3, 0, 1, 2}},
		{"4:0-1,1-2,2-3,3-0", "4:0-2,2-1,1-3,3-0", []int64{0, 2, 1, 3}},
		{"4:0-1,1-2,2-3,3-0", "4:0-1,1-3,3-2,2-0", []int64{0, 1, 3, 2}},
		{"4:0-1,2-3", "4:0-3,1-2", []int64{0, 3, 1, 2}},
		{"4:0-0,1-1", "4:1-1,3-3", []int64{1, 3, 0, 2}},
		{"4:0-1,0-1,2-3", "4:0-1,2-3,2-3", []int64{2, 3, 0, 1}},
		{"8:0-0", "8:7-7", []int64{7, 0, 1, 2, 3, 4, 5, 6}},
		{"8:7-7", "8:0-0", []int64{1, 2, 3, 4, 5, 6, 7, 0}},
		{"8:0-1,2-3,4-5,6-7", "8:0-7,1-6,2-5,3-4", []int64{0, 7, 1, 6, 2, 5, 3, 4}},
		{"6:0-1,1-2,2-3,3-4,4-5,5-0", "6:0-2,2-4,4-1,1-3,3-5,5-0", []int64{0, 2, 4, 1, 3, 5}},
		{"6:0-1,0-2,0-3,0-4,0-5,1-2,2-3,3-4,4-5,5-1", "6:5-0,5-1,5-2,5-3,5-4,0-2,2-4,4-1,1-3,3-0", []int64{5, 0, 2, 4, 1, 3}},
		{"8:0-0,0-1,1-2,2-3,3-4,4-5,5-6,6-7,7-0,0-0", "8:3-3,3-4,4-5,5-6,6-7,7-0,0-1,1-2,2-3,3-3", []int64{3, 2, 1, 0, 7, 6, 5, 4}},
	} {
		list, code := impl.FindIsomorphism(parsed(t, c.first), parsed(t, c.second))
		checkNumbers(t, fmt.Sprint("FindIsomorphism of ", c.first, " and ", c.second), list, code, c.want)
	}
}

// factorial returns the product of all numbers up to n.
func factorial(n int64) int64 {
	product := int64(1)
	for k := range n {
		product *= k + 1
	}
	return product
}

func TestNumbersOfAutomorphisms(t *testing.T) {
	for name, want := range map[string]int64{"point": 1, "edge": 2, "loop": 1, "bouquet": 1, "theta": 2, "dumbbell": 2, "triangle": 6,
		"square": 8, "pentagon": 10, "star": 6, "diamond": 4, "tetrahedron": 24, "prism": 12, "houses": 72} {
		g, _ := impl.NamedGraph(name)
		n, code := impl.CountAutomorphisms(g)
		checkNumber(t, "CountAutomorphisms of "+name, n, code, want)
	}
	for size := int64(1); size <= impl.MaxVertices; size++ {
		n, code := impl.CountAutomorphisms(impl.Graph{Size: size})
		checkNumber(t, fmt.Sprint("CountAutomorphisms without edges ", size), n, code, factorial(size))
	}
	for text, want := range map[string]int64{
		"2:0-0":                                 1,
		"2:0-0,1-1":                             2,
		"2:0-0,1-1,1-1":                         1,
		"2:0-1,0-1,1-0":                         2,
		"2:0-1,0-1,0-0":                         1,
		"3:0-1,1-2":                             2,
		"3:0-1,0-1,1-2":                         1,
		"3:0-1,0-1,1-2,2-1,2-0,0-2,0-0,1-1,2-2": 6,
		"3:0-1,1-2,2-0,0-0":                     2,
		"4:0-1,2-3":                             8,
		"4:0-1,0-1,2-3":                         4,
		"4:0-0,0-1,2-3":                         2,
		"5:0-1,0-2,0-3,0-4,1-2,1-3,1-4,2-3,2-4,3-4": 120,
		"5:0-2,0-3,0-4,1-2,1-3,1-4":                 12,
		"6:0-1,1-2,2-0,3-4,4-5,5-3":                 72,
		"6:0-1,0-2,0-3,0-4,0-5,1-2,2-3,3-4,4-5,5-1": 10,
		"6:0-1,1-2,2-3,3-4,4-5,5-0,0-0,2-2,4-4":     6,
		"6:0-1,1-2,2-3,3-4,4-5,5-0,0-1,2-3,4-5":     6,
		"6:0-1,1-2,2-3,3-4,4-5,5-0,0-0,1-1,3-3":     1,
		"7:0-1,0-2,2-3,0-4,4-5,5-6":                 1,
		"7:0-1,1-2,2-3,3-4,4-5,5-6,6-0":             14,
		"7:0-2,0-3,0-4,0-5,0-6,1-2,1-3,1-4,1-5,1-6": 240,
		"8:0-1,0-2,0-3,0-4,0-5,0-6,0-7":             5040,
		"8:0-1,1-2,2-3,3-4,4-5,5-6,6-7,7-0":         16,
		"8:0-1,1-2,2-3,3-4,4-5,5-6,6-7,7-0,0-4,2-6": 8,
		"8:0-1,1-2,2-3,3-0,4-5,5-6,6-7,7-4":         128,
		"8:0-1,2-3,4-5,6-7":                         384,
		"8:0-0":                                     5040,
		"8:0-0,1-1,2-2,3-3,4-4,5-5,6-6,7-7":         40320,
		"8:0-0,1-1,2-2,3-3,4-4,5-5,6-6,7-7,0-0,1-1": 1440,
		"8:0-1,0-1,0-1,0-1,0-1,0-1,0-1,0-1,0-1,0-1": 1440,
		"8:0-1,0-1,0-1,0-1,0-1,2-3,2-3,2-3,2-3,2-3": 192,
		"1:0-0,0-0,0-0,0-0,0-0,0-0,0-0,0-0,0-0,0-0": 1,
	} {
		n, code := impl.CountAutomorphisms(parsed(t, text))
		checkNumber(t, "CountAutomorphisms of "+text, n, code, want)
	}
}

func TestAutomorphismsAreCountedByMaps(t *testing.T) {
	maps := map[int64][][]int64{}
	for size := int64(1); size <= 6; size++ {
		maps[size] = orderedMaps(size)
	}
	for _, g := range spectraGraphs(t) {
		count := int64(0)
		// Each renumbered graph arises from as many maps as there are automorphisms.
		codes := map[string]bool{}
		for _, list := range maps[g.Size] {
			if leads(g, g, list) {
				count++
			}
			codes[fmt.Sprint(handCode(handRenumbered(g, list)))] = true
		}
		if g.Size <= 6 {
			what := fmt.Sprint("CountAutomorphisms of ", g)
			n, code := impl.CountAutomorphisms(g)
			checkNumber(t, what, n, code, count)
			same(t, what, n*int64(len(codes)), factorial(g.Size))
		}
	}
}

func TestCodes(t *testing.T) {
	for _, g := range spectraGraphs(t) {
		list, code := impl.CodeOf(g)
		checkNumbers(t, fmt.Sprint("CodeOf ", g), list, code, handCode(g))
	}
	for text, want := range map[string][]int64{
		"1:":                    {1, 0},
		"1:0-0,0-0":             {1, 4},
		"2:":                    {2, 0, 0, 0},
		"2:1-0":                 {2, 0, 1, 0},
		"2:1-1,0-1,1-0":         {2, 0, 2, 2},
		"3:0-1,1-2":             {3, 0, 1, 0, 0, 1, 0},
		"3:0-0,0-2,2-2,2-2,1-2": {3, 2, 0, 0, 1, 1, 4},
		"4:0-1,0-2,0-3":         {4, 0, 1, 0, 1, 0, 0, 1, 0, 0, 0},
		"8:7-0":                 slices.Concat([]int64{8}, filled(28, 0), []int64{1}, filled(7, 0)),
	} {
		list, code := impl.CodeOf(parsed(t, text))
		checkNumbers(t, "CodeOf "+text, list, code, want)
	}
}

func TestLeastCodes(t *testing.T) {
	maps := map[int64][][]int64{}
	for size := int64(1); size <= 6; size++ {
		maps[size] = orderedMaps(size)
	}
	for _, g := range spectraGraphs(t) {
		what := fmt.Sprint("LeastCode of ", g)
		list, code := impl.LeastCode(g)
		if g.Size > 6 {
			sameCode(t, what, code, impl.ErrLimit)
			same(t, what, list, []int64(nil))
			continue
		}
		least := handCode(g)
		for _, order := range maps[g.Size] {
			if other := handCode(handRenumbered(g, order)); slices.Compare(other, least) < 0 {
				least = other
			}
		}
		checkNumbers(t, what, list, code, least)
	}
	for text, want := range map[string][]int64{
		"1:":                        {1, 0},
		"1:0-0":                     {1, 2},
		"2:1-0":                     {2, 0, 1, 0},
		"2:0-0":                     {2, 0, 0, 2},
		"2:0-0,0-1,1-1,0-0":         {2, 2, 1, 4},
		"3:0-1,1-2":                 {3, 0, 0, 0, 1, 1, 0},
		"3:0-1,1-2,2-0":             {3, 0, 1, 0, 1, 1, 0},
		"4:0-1,0-2,0-3":             {4, 0, 0, 0, 0, 0, 0, 1, 1, 1, 0},
		"4:0-1,2-3":                 {4, 0, 0, 0, 0, 1, 0, 1, 0, 0, 0},
		"6:":                        slices.Concat([]int64{6}, filled(21, 0)),
		"6:0-0":                     slices.Concat([]int64{6}, filled(20, 0), []int64{2}),
		"6:0-1,0-2,0-3,0-4,0-5,0-0": slices.Concat([]int64{6}, filled(15, 0), filled(5, 1), []int64{2}),
	} {
		list, code := impl.LeastCode(parsed(t, text))
		checkNumbers(t, "LeastCode of "+text, list, code, want)
	}
}

func TestLeastCodesOfManyVertices(t *testing.T) {
	edges := "0-1,1-2,2-3,3-4,4-5,5-0,0-2,2-4,4-0,1-3"
	list, code := impl.LeastCode(parsed(t, "6:"+edges))
	sameCode(t, "LeastCode", code, impl.ErrNone)
	same(t, "LeastCode", len(list), 22)
	for _, text := range []string{"7:", "8:", "7:0-0", "7:0-1", "8:7-7", "7:" + edges, "8:" + edges, "7:0-1,1-2,2-3,3-4,4-5,5-6"} {
		list, code := impl.LeastCode(parsed(t, text))
		sameCode(t, "LeastCode of "+text, code, impl.ErrLimit)
		same(t, "LeastCode of "+text, list, []int64(nil))
	}
}

func TestSpectraOfAdjacencyRows(t *testing.T) {
	for _, g := range spectraGraphs(t) {
		what := fmt.Sprint("SpectrumOf ", g)
		rows := handAdjacency(g)
		list, code := impl.SpectrumOf(g)
		sameCode(t, what, code, impl.ErrNone)
		sameDeterminant(t, what, list, len(rows), func(u int64) [][]int64 {
			less := squareRows(len(rows))
			for i, row := range rows {
				less[i] = times(-u, row)
				less[i][i]++
			}
			return less
		})
		characteristic, code := impl.CharacteristicOf(g)
		sameCode(t, what, code, impl.ErrNone)
		slices.Reverse(characteristic)
		same(t, what, list, cut(characteristic))
	}
	for text, want := range map[string][]int64{
		"1:":                    {1},
		"8:":                    {1},
		"1:0-0":                 {1, -2},
		"8:3-3":                 {1, -2},
		"2:0-1":                 {1, 0, -1},
		"2:0-0,1-1":             {1, -4, 4},
		"3:0-1,1-2,2-0":         {1, 0, -3, -2},
		"3:0-1,1-2":             {1, 0, -2},
		"4:0-1,0-2,0-3":         {1, 0, -3},
		"4:0-1,1-2,2-3,3-0":     {1, 0, -4},
		"4:0-1,1-2,2-3,3-0,0-2": {1, 0, -5, -4},
		"2:0-1,0-1,0-1,0-1,0-1,0-1,0-1,0-1,0-1,0-1": {1, 0, -100},
		"1:0-0,0-0,0-0,0-0,0-0,0-0,0-0,0-0,0-0,0-0": {1, -20},
	} {
		list, code := impl.SpectrumOf(parsed(t, text))
		checkNumbers(t, "SpectrumOf "+text, list, code, want)
	}
}

// alikeCalls returns calls of the functions of chapter 8 that need a graph alone.
func alikeCalls(g impl.Graph) []weightCall {
	count, first := impl.CountAutomorphisms(g)
	list, second := impl.CodeOf(g)
	least, third := impl.LeastCode(g)
	spectrum, fourth := impl.SpectrumOf(g)
	return []weightCall{{"CountAutomorphisms", count, first}, {"CodeOf", list, second}, {"LeastCode", least, third},
		{"SpectrumOf", spectrum, fourth}}
}

// checkPairCodes checks that all functions of two graphs refuse them with a code.
func checkPairCodes(t *testing.T, g impl.Graph, h impl.Graph, want int64) {
	t.Helper()
	what := fmt.Sprint(" of ", g.Size, len(g.Edges), h.Size, len(h.Edges))
	for _, list := range [][]int64{nil, {0}, {0, 1}, {1, 0}, {0, 0}, {-1}, {math.MaxInt64}, {math.MinInt64}} {
		checkMapCode(t, g, h, list, want)
	}
	found, code := impl.FindIsomorphism(g, h)
	checkRefused(t, what, []weightCall{{"FindIsomorphism", found, code}}, want)
	for name, f := range map[string]func(impl.Graph, impl.Graph) (bool, int64){
		"AreIsomorphic": impl.AreIsomorphic, "DoLookAlike": impl.DoLookAlike,
	} {
		yes, code := f(g, h)
		sameCode(t, name+what, code, want)
		same(t, name+what, yes, false)
	}
}

// checkMapCode checks that IsIsomorphism refuses a list with a code.
func checkMapCode(t *testing.T, g impl.Graph, h impl.Graph, list []int64, want int64) {
	t.Helper()
	what := fmt.Sprint("IsIsomorphism of ", g.Size, len(g.Edges), h.Size, len(h.Edges), list)
	yes, code := impl.IsIsomorphism(g, h, list)
	sameCode(t, what, code, want)
	same(t, what, yes, false)
}

// checkRenumberCode checks that RenumberGraph refuses a list with a code.
func checkRenumberCode(t *testing.T, g impl.Graph, list []int64, want int64) {
	t.Helper()
	what := fmt.Sprint("RenumberGraph of ", g.Size, len(g.Edges), list)
	h, code := impl.RenumberGraph(g, list)
	sameCode(t, what, code, want)
	same(t, what, h, impl.Graph{})
}

func TestAlikeFunctionsRefuseWhatIsNoGraph(t *testing.T) {
	good := []impl.Graph{parsed(t, "1:"), parsed(t, "2:0-1"), parsed(t, "8:0-1,1-2,2-3,3-4,4-5,5-6,6-7,7-0,0-4,2-6")}
	for _, bad := range badGraphs() {
		checkRefused(t, fmt.Sprint(" of ", bad.Size, len(bad.Edges)), alikeCalls(bad), impl.ErrInvalid)
		// What is no graph is found before a list that is no map, and in either place.
		for _, list := range [][]int64{nil, {0}, {0, 1}, {1, 0}, {0, 0}, {2, 1}, {math.MinInt64}, filled(1000, 0)} {
			checkRenumberCode(t, bad, list, impl.ErrInvalid)
		}
		checkPairCodes(t, bad, bad, impl.ErrInvalid)
		for _, g := range good {
			checkPairCodes(t, bad, g, impl.ErrInvalid)
			checkPairCodes(t, g, bad, impl.ErrInvalid)
		}
	}
}

// refusedMaps returns lists that are no maps of n vertices.
func refusedMaps(n int64) [][]int64 {
	var straight []int64
	for v := range n {
		straight = append(straight, v)
	}
	lists := [][]int64{nil, straight[:n-1], append(slices.Clone(straight), n), append(slices.Clone(straight), 0), filled(1000, 0)}
	for i := range straight {
		for _, number := range append(outside(n), math.MinInt64+1, math.MaxInt64-1, 1<<32+int64(i), 1<<63-8, -math.MaxInt64+int64(i)) {
			list := slices.Clone(straight)
			list[i] = number
			lists = append(lists, list)
		}
		for j := range straight {
			if i != j {
				list := slices.Clone(straight)
				list[i] = list[j]
				lists = append(lists, list)
			}
		}
	}
	return lists
}

func TestAlikeFunctionsRefuseListsThatAreNoMaps(t *testing.T) {
	for _, text := range []string{"1:", "1:0-0", "2:0-1", "3:0-1,1-2,2-0", "4:", "6:0-1,1-2,2-0,3-4,4-5,5-3", "8:",
		"8:0-1,1-2,2-3,3-4,4-5,5-6,6-7,7-0,0-4,2-6"} {
		g := parsed(t, text)
		for _, list := range refusedMaps(g.Size) {
			checkRenumberCode(t, g, list, impl.ErrRange)
			checkMapCode(t, g, g, list, impl.ErrRange)
		}
	}
}

func TestGraphsOfDifferentSizes(t *testing.T) {
	for first := int64(1); first <= impl.MaxVertices; first++ {
		for second := int64(1); second <= impl.MaxVertices; second++ {
			if first == second {
				continue
			}
			for _, edges := range [][][]int64{nil, {{0, 0}}} {
				g, h := impl.Graph{Size: first, Edges: edges}, impl.Graph{Size: second, Edges: edges}
				for _, list := range append(someMaps(new(dice), first), someMaps(new(dice), second)...) {
					checkMapCode(t, g, h, list, impl.ErrRange)
				}
				what := fmt.Sprint(" of ", g, h)
				list, code := impl.FindIsomorphism(g, h)
				checkRefused(t, what, []weightCall{{"FindIsomorphism", list, code}}, impl.ErrNotFound)
				yes, code := impl.AreIsomorphic(g, h)
				checkYes(t, "AreIsomorphic"+what, yes, code, false)
				yes, code = impl.DoLookAlike(g, h)
				checkYes(t, "DoLookAlike"+what, yes, code, false)
			}
		}
	}
}

// alikeResults returns a text of all that the functions of chapter 8 with maps return for two graphs,
// and overwrites the lists.
func alikeResults(g impl.Graph, h impl.Graph, list []int64) string {
	is, a := impl.IsIsomorphism(g, h, list)
	found, b := impl.FindIsomorphism(g, h)
	are, c := impl.AreIsomorphic(g, h)
	alike, d := impl.DoLookAlike(g, h)
	renumbered, e := impl.RenumberGraph(g, list)
	text := fmt.Sprint(is, found, are, alike, renumbered, a, b, c, d, e)
	calls := alikeCalls(g)
	for _, c := range calls {
		text += fmt.Sprint(c.name, c.result, c.code)
	}
	for _, c := range calls {
		if list, ok := c.result.([]int64); ok {
			scribble(list)
		}
	}
	scribble(found)
	for _, e := range renumbered.Edges {
		scribble(e)
	}
	return text
}

func TestAlikeResultsShareNoMemory(t *testing.T) {
	d := dice(86)
	for _, sample := range spectraGraphs(t) {
		list := roomy(rolledMap(&d, sample.Size))
		g, h := roomyGraph(sample), roomyGraph(handRenumbered(sample, list))
		before := wholeRows(g.Edges) + wholeRows(h.Edges) + wholeMemory(list)
		what := fmt.Sprint("results of ", sample)
		results := alikeResults(g, h, list)
		same(t, what, alikeResults(g, h, list), results)
		renumbered, _ := impl.RenumberGraph(g, list)
		ownRows(t, what, renumbered.Edges)
		same(t, what, wholeRows(g.Edges)+wholeRows(h.Edges)+wholeMemory(list), before)
	}
	// Lists that are refused are not changed either.
	g := roomyGraph(parsed(t, "3:0-1,1-2,2-0"))
	for _, refused := range refusedMaps(3) {
		list := roomy(refused)
		before := wholeRows(g.Edges) + wholeMemory(list)
		alikeResults(g, g, list)
		same(t, fmt.Sprint("memory of ", refused), wholeRows(g.Edges)+wholeMemory(list), before)
	}
}
