package tests

import (
	"fmt"
	"math"
	"testing"

	"loop.example/g01298/impl"
)

// same fails the test if two values are not printed alike; nil and empty slices are.
func same(t *testing.T, what string, got any, want any) {
	t.Helper()
	if fmt.Sprintf("%#v", plain(got)) != fmt.Sprintf("%#v", plain(want)) {
		t.Errorf("%s: got %v, want %v", what, got, want)
	}
}

// plain replaces slices that may be nil by text, so that nil and empty ones are equal.
func plain(x any) any {
	switch y := x.(type) {
	case []int64, [][]int64, []string, impl.Graph, impl.Cover, impl.Desk:
		return fmt.Sprint(y)
	}
	return x
}

// sameCode fails the test if a code is not the one that is wanted.
func sameCode(t *testing.T, what string, got int64, want int64) {
	t.Helper()
	if got != want {
		t.Errorf("%s: code %d, want %d", what, got, want)
	}
}

// dice is a sequence of numbers that is the same in every run.
type dice uint64

// below returns the next number, in 0..n - 1.
func (d *dice) below(n int64) int64 {
	*d = *d*6364136223846793005 + 1442695040888963407
	return int64(uint64(*d)>>33) % n
}

// between returns the next number, in low..high.
func (d *dice) between(low int64, high int64) int64 { return low + d.below(high-low+1) }

// parsed returns the graph with a text.
func parsed(t *testing.T, text string) impl.Graph {
	t.Helper()
	g, code := impl.ParseGraph(text)
	sameCode(t, "ParseGraph "+text, code, impl.ErrNone)
	return g
}

// sampleGraphs returns all kinds of graphs: the ones with names, all with up to 2 vertices and 3
// edges, and some of each size and number of edges.
func sampleGraphs() []impl.Graph {
	var graphs []impl.Graph
	for _, name := range impl.GraphNames() {
		g, _ := impl.NamedGraph(name)
		graphs = append(graphs, g)
	}
	graphs = append(graphs, smallGraphs(1, 3)...)
	graphs = append(graphs, smallGraphs(2, 3)...)
	d := dice(1)
	for size := int64(1); size <= impl.MaxVertices; size++ {
		for edges := int64(0); edges <= impl.MaxEdges; edges++ {
			graphs = append(graphs, rolledGraph(&d, size, edges), rolledGraph(&d, size, edges))
		}
	}
	return graphs
}

// smallGraphs returns all graphs of a size with at most most edges.
func smallGraphs(size int64, most int) []impl.Graph {
	lists := [][][]int64{nil}
	for at := 0; at < len(lists); at++ {
		if len(lists[at]) == most {
			continue
		}
		for a := range size {
			for b := range size {
				var longer [][]int64
				longer = append(longer, lists[at]...)
				lists = append(lists, append(longer, []int64{a, b}))
			}
		}
	}
	var graphs []impl.Graph
	for _, list := range lists {
		graphs = append(graphs, copyOfGraph(impl.Graph{Size: size, Edges: list}))
	}
	return graphs
}

// rolledGraph returns a graph with rolled edges.
func rolledGraph(d *dice, size int64, edges int64) impl.Graph {
	g := impl.Graph{Size: size}
	for range edges {
		g.Edges = append(g.Edges, []int64{d.below(size), d.below(size)})
	}
	return g
}

// copyOfGraph returns a graph in memory of its own.
func copyOfGraph(g impl.Graph) impl.Graph {
	return impl.Graph{Size: g.Size, Edges: copyOfRows(g.Edges)}
}

// copyOfRows returns rows in memory of their own.
func copyOfRows(rows [][]int64) [][]int64 {
	copied := make([][]int64, len(rows))
	for i, row := range rows {
		copied[i] = append([]int64{}, row...)
	}
	return copied
}

// badGraphs returns values that are no graphs.
func badGraphs() []impl.Graph {
	eleven := make([][]int64, impl.MaxEdges+1)
	for k := range eleven {
		eleven[k] = []int64{0, 0}
	}
	bad := []impl.Graph{
		{},
		{Size: -1},
		{Size: impl.MaxVertices + 1},
		{Size: math.MaxInt64},
		{Size: math.MinInt64},
		{Size: 0, Edges: [][]int64{{0, 0}}},
		{Size: 1, Edges: eleven},
		{Size: 1, Edges: make([][]int64, 1000)},
	}
	for _, list := range [][]int64{nil, {}, {0}, {0, 1, 0}, {0, 0, 0}, {0, 2}, {2, 0}, {-1, 0}, {0, -1},
		{math.MaxInt64, 0}, {0, math.MaxInt64}, {math.MinInt64, 0}, {0, math.MinInt64}} {
		bad = append(bad, impl.Graph{Size: 2, Edges: [][]int64{list}},
			impl.Graph{Size: 2, Edges: [][]int64{{0, 1}, list, {1, 1}}})
	}
	return bad
}

// outside returns numbers that are no indices of a list of n elements.
func outside(n int64) []int64 {
	return []int64{-1, n, n + 1, -n - 1, math.MaxInt64, math.MinInt64, math.MaxInt32, 1 << 32, -1 << 32}
}

// marker stands behind the end of lists that must not be touched.
const marker = 987654321

// roomy returns a list with spare capacity that is marked.
func roomy(list []int64) []int64 {
	whole := append(append([]int64{}, list...), marker, marker, marker)
	return whole[:len(list)]
}

// roomyRows returns rows with spare capacity, both of the list and of each row.
func roomyRows(rows [][]int64) [][]int64 {
	var roomier [][]int64
	for _, row := range rows {
		roomier = append(roomier, roomy(row))
	}
	roomier = append(roomier, []int64{marker}, []int64{marker})
	return roomier[:len(rows)]
}

// roomyGraph returns a graph with spare capacity.
func roomyGraph(g impl.Graph) impl.Graph {
	return impl.Graph{Size: g.Size, Edges: roomyRows(g.Edges)}
}

// wholeMemory returns a text of a list with the capacity behind it.
func wholeMemory(list []int64) string { return fmt.Sprint(list[:cap(list)]) }

// wholeRows returns a text of rows with all capacity.
func wholeRows(rows [][]int64) string {
	text := ""
	for _, row := range rows[:cap(rows)] {
		text += wholeMemory(row)
	}
	return text
}

// scribble overwrites a list, and the capacity behind it.
func scribble(list []int64) {
	list = list[:cap(list)]
	for i := range list {
		list[i] = -marker
	}
}

// ownRows fails the test if two rows share memory.
func ownRows(t *testing.T, what string, rows [][]int64) {
	t.Helper()
	for i := range rows {
		before := fmt.Sprint(rows[i+1:])
		scribble(rows[i])
		if fmt.Sprint(rows[i+1:]) != before {
			t.Errorf("%s: row %d shares memory with a later one", what, i)
		}
	}
}
