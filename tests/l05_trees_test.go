package tests

import (
	"fmt"
	"math"
	"runtime"
	"slices"
	"sync"
	"testing"
	"time"

	"loop.example/g01298/impl"
)

// treeGraphs returns all kinds of graphs, and those with most spanning trees that were found of
// each size.
func treeGraphs(t *testing.T) []impl.Graph {
	graphs := zetaGraphs(t)
	for _, c := range graphsWithMostTrees() {
		graphs = append(graphs, parsed(t, c.text))
	}
	return graphs
}

// graphsWithMostTrees returns graphs with MaxEdges edges, and the numbers of their spanning trees.
func graphsWithMostTrees() []struct {
	text string
	want int64
} {
	return []struct {
		text string
		want int64
	}{
		{"1:0-0,0-0,0-0,0-0,0-0,0-0,0-0,0-0,0-0,0-0", 1},
		{"2:1-0,1-0,0-1,1-0,0-1,0-1,1-0,0-1,1-0,1-0", 10},
		{"3:1-2,2-0,1-2,0-2,1-0,0-1,1-0,2-1,2-0,0-1", 33},
		{"4:1-0,3-2,2-0,2-3,0-1,1-2,3-0,1-3,1-3,0-2", 72},
		{"5:2-3,2-4,2-0,2-1,4-1,4-0,1-3,0-3,1-0,3-4", 125},
		{"6:4-0,1-4,1-2,0-2,5-1,3-4,1-3,0-5,2-3,5-3", 135},
		{"7:2-4,4-3,2-1,2-0,5-0,6-4,5-6,3-0,6-1,1-3", 117},
		{"8:3-2,6-0,5-3,1-6,0-4,1-2,7-6,3-7,0-5,4-2", 72},
	}
}

// handSubset is a subset of edges, with the number of the part of each vertex.
type handSubset struct {
	list  []int64
	part  []int64
	parts int64
	rank  int64
}

func (s handSubset) isForest() bool { return s.rank == int64(len(s.list)) }

func (s handSubset) isTree() bool { return s.isForest() && s.parts == 1 }

// handSubsetOf returns a subset with its parts: for each edge, the part of one vertex is renamed.
func handSubsetOf(g impl.Graph, list []int64) handSubset {
	s := handSubset{list: list}
	for v := range g.Size {
		s.part = append(s.part, v)
	}
	for _, k := range list {
		from, to := s.part[g.Edges[k][0]], s.part[g.Edges[k][1]]
		for v := range s.part {
			if s.part[v] == from {
				s.part[v] = to
			}
		}
	}
	names := map[int64]bool{}
	for _, name := range s.part {
		names[name] = true
	}
	s.parts = int64(len(names))
	s.rank = g.Size - s.parts
	return s
}

// handSubsets returns all subsets of the edges of a graph, by bits.
func handSubsets(g impl.Graph) []handSubset {
	var all []handSubset
	for bits := range 1 << len(g.Edges) {
		var list []int64
		for k := range g.Edges {
			if bits>>k&1 == 1 {
				list = append(list, int64(k))
			}
		}
		all = append(all, handSubsetOf(g, list))
	}
	return all
}

// counted returns how many subsets there are for which a condition holds.
func counted(all []handSubset, holds func(handSubset) bool) int64 {
	count := int64(0)
	for _, s := range all {
		if holds(s) {
			count++
		}
	}
	return count
}

// checkNumber checks a number with ErrNone.
func checkNumber(t *testing.T, what string, got int64, code int64, want int64) {
	t.Helper()
	if got != want || code != impl.ErrNone {
		t.Errorf("%s: got %d and code %d, want %d", what, got, code, want)
	}
}

// number returns the number that a function of a graph returns with ErrNone.
func number(t *testing.T, f func(impl.Graph) (int64, int64), g impl.Graph) int64 {
	t.Helper()
	n, code := f(g)
	sameCode(t, fmt.Sprint("function of ", g), code, impl.ErrNone)
	return n
}

func TestNumbersOfSubsetsAreCounted(t *testing.T) {
	for _, g := range treeGraphs(t) {
		what := fmt.Sprint(" of ", g)
		all := handSubsets(g)
		n, code := impl.CountTrees(g)
		checkNumber(t, "CountTrees"+what, n, code, counted(all, handSubset.isTree))
		n, code = impl.CountForests(g)
		checkNumber(t, "CountForests"+what, n, code, counted(all, handSubset.isForest))
		n, code = impl.CountConnected(g)
		checkNumber(t, "CountConnected"+what, n, code, counted(all, func(s handSubset) bool { return s.parts == 1 }))
		for k := range int64(len(g.Edges)) {
			n, code = impl.TreesWith(g, k)
			checkNumber(t, fmt.Sprint("TreesWith", what, k), n, code,
				counted(all, func(s handSubset) bool { return s.isTree() && slices.Contains(s.list, k) }))
		}
	}
}

func TestEachSubset(t *testing.T) {
	for _, g := range treeGraphs(t) {
		for _, s := range handSubsets(g) {
			rank, code := impl.SubsetRank(g, s.list)
			checkNumber(t, "SubsetRank", rank, code, s.rank)
			yes, code := impl.IsTree(g, s.list)
			if yes != s.isTree() || code != impl.ErrNone {
				t.Errorf("IsTree of %v and %v: got %v and code %d", g, s.list, yes, code)
			}
		}
	}
}

func TestListsHaveAsManyTreesAsAreCounted(t *testing.T) {
	same(t, "limit", impl.MaxTrees, 300)
	for _, g := range treeGraphs(t) {
		what := fmt.Sprint("spanning trees of ", g)
		var want [][]int64
		for _, s := range handSubsets(g) {
			if s.isTree() {
				want = append(want, s.list)
			}
		}
		slices.SortFunc(want, slices.Compare[[]int64])
		list, code := impl.SpanningTrees(g)
		sameCode(t, what, code, impl.ErrNone)
		same(t, what, list, want)
		same(t, what, int64(len(list)), number(t, impl.CountTrees, g))
		with := make([]int64, len(g.Edges))
		for _, tree := range list {
			same(t, what, int64(len(tree)), g.Size-1)
			yes, code := impl.IsTree(g, tree)
			sameCode(t, what, code, impl.ErrNone)
			same(t, what, yes, true)
			for _, k := range tree {
				with[k]++
			}
		}
		for k := range with {
			n, code := impl.TreesWith(g, int64(k))
			checkNumber(t, what, n, code, with[k])
		}
	}
}

func TestSpanningTreesByText(t *testing.T) {
	for _, c := range []struct {
		text string
		want [][]int64
	}{
		{"1:", [][]int64{{}}},
		{"1:0-0", [][]int64{{}}},
		{"1:0-0,0-0", [][]int64{{}}},
		{"2:", nil},
		{"8:", nil},
		{"2:0-0,1-1", nil},
		{"4:0-1,2-3", nil},
		{"3:0-1,0-1,0-1", nil},
		{"2:0-1", [][]int64{{0}}},
		{"2:1-0,1-0,0-1", [][]int64{{0}, {1}, {2}}},
		{"2:0-0,0-1,1-1", [][]int64{{1}}},
		{"3:0-1,1-2,2-0", [][]int64{{0, 1}, {0, 2}, {1, 2}}},
		{"3:0-1,1-0,1-1,1-2", [][]int64{{0, 3}, {1, 3}}},
		{"4:0-1,0-2,0-3", [][]int64{{0, 1, 2}}},
		{"4:0-1,1-2,2-3,3-0,0-2", [][]int64{{0, 1, 2}, {0, 1, 3}, {0, 2, 3}, {0, 2, 4}, {0, 3, 4}, {1, 2, 3}, {1, 2, 4}, {1, 3, 4}}},
		{"8:7-6,6-5,5-4,4-3,3-2,2-1,1-0", [][]int64{{0, 1, 2, 3, 4, 5, 6}}},
	} {
		list, code := impl.SpanningTrees(parsed(t, c.text))
		sameCode(t, "SpanningTrees of "+c.text, code, impl.ErrNone)
		same(t, "SpanningTrees of "+c.text, list, c.want)
		same(t, "SpanningTrees of "+c.text, len(list), len(c.want))
	}
}

func TestTreesAreCountedByDeletionAndContraction(t *testing.T) {
	for _, g := range treeGraphs(t) {
		for k := range int64(len(g.Edges)) {
			what := fmt.Sprint("edge ", k, " of ", g)
			deleted, code := impl.DeleteEdge(g, k)
			sameCode(t, what, code, impl.ErrNone)
			trees, forests, connected := number(t, impl.CountTrees, deleted), number(t, impl.CountForests, deleted), number(t, impl.CountConnected, deleted)
			with, code := impl.TreesWith(g, k)
			sameCode(t, what, code, impl.ErrNone)
			if g.Edges[k][0] == g.Edges[k][1] {
				// A loop is in no forest, and changes nothing about being connected.
				same(t, what, with, int64(0))
				connected *= 2
			} else {
				contracted, code := impl.ContractEdge(g, k)
				sameCode(t, what, code, impl.ErrNone)
				same(t, what, with, number(t, impl.CountTrees, contracted))
				trees += number(t, impl.CountTrees, contracted)
				forests += number(t, impl.CountForests, contracted)
				connected += number(t, impl.CountConnected, contracted)
			}
			same(t, "trees, "+what, number(t, impl.CountTrees, g), trees)
			same(t, "forests, "+what, number(t, impl.CountForests, g), forests)
			same(t, "connected subsets, "+what, number(t, impl.CountConnected, g), connected)
		}
	}
}

// handLaplacian returns the rows of the Laplacian by its definition.
func handLaplacian(g impl.Graph) [][]int64 {
	rows := squareRows(int(g.Size))
	for i := range g.Size {
		for j := range g.Size {
			for _, e := range g.Edges {
				switch {
				case e[0] == e[1]:
				case i == j && (e[0] == i || e[1] == i):
					rows[i][i]++
				case i != j && (e[0] == i && e[1] == j || e[0] == j && e[1] == i):
					rows[i][j]--
				}
			}
		}
	}
	return rows
}

// without returns rows without the rows and the columns of some vertices.
func without(rows [][]int64, vertices ...int64) [][]int64 {
	var kept [][]int64
	for i, row := range rows {
		if slices.Contains(vertices, int64(i)) {
			continue
		}
		var rest []int64
		for j, n := range row {
			if !slices.Contains(vertices, int64(j)) {
				rest = append(rest, n)
			}
		}
		kept = append(kept, rest)
	}
	return kept
}

func TestTreesAreDeterminantsOfLaplacians(t *testing.T) {
	for _, g := range treeGraphs(t) {
		what := fmt.Sprint("Laplacian of ", g)
		rows, code := impl.LaplacianRows(g)
		sameCode(t, what, code, impl.ErrNone)
		same(t, what, rows, handLaplacian(g))
		for v := range g.Size {
			same(t, what, determinantRest(without(rows, v)), uint64(number(t, impl.CountTrees, g)))
		}
		// Without loops the numbers on the diagonal are the degrees.
		degrees, _ := impl.DegreesOf(g)
		adjacency, _ := impl.AdjacencyOf(g)
		for v := range rows {
			same(t, what, rows[v][v], degrees[v]-adjacency[v][v])
		}
	}
}

func TestLaplaciansByText(t *testing.T) {
	for _, c := range []struct {
		text string
		want [][]int64
	}{
		{"1:", [][]int64{{0}}},
		{"1:0-0,0-0", [][]int64{{0}}},
		{"2:", [][]int64{{0, 0}, {0, 0}}},
		{"2:0-1", [][]int64{{1, -1}, {-1, 1}}},
		{"2:0-1,1-0,0-1", [][]int64{{3, -3}, {-3, 3}}},
		{"2:0-0,0-1,1-1", [][]int64{{1, -1}, {-1, 1}}},
		{"3:0-1,1-2,2-0", [][]int64{{2, -1, -1}, {-1, 2, -1}, {-1, -1, 2}}},
		{"3:2-1,1-2,0-0", [][]int64{{0, 0, 0}, {0, 2, -2}, {0, -2, 2}}},
		{"4:0-1,0-2,0-3", [][]int64{{3, -1, -1, -1}, {-1, 1, 0, 0}, {-1, 0, 1, 0}, {-1, 0, 0, 1}}},
	} {
		rows, code := impl.LaplacianRows(parsed(t, c.text))
		sameCode(t, "LaplacianRows of "+c.text, code, impl.ErrNone)
		same(t, "LaplacianRows of "+c.text, rows, c.want)
	}
}

// handTable returns the subset table by its definition.
func handTable(g impl.Graph) [][]int64 {
	all := handSubsets(g)
	rank := all[len(all)-1].rank
	var table [][]int64
	for i := range rank + 1 {
		var row []int64
		for j := range int64(len(g.Edges)) - rank + 1 {
			row = append(row, counted(all, func(s handSubset) bool {
				return s.rank == rank-i && int64(len(s.list)) == rank-i+j
			}))
		}
		table = append(table, row)
	}
	return table
}

func TestSubsetTablesTellTreesForestsAndConnectedSubsets(t *testing.T) {
	for _, g := range treeGraphs(t) {
		what := fmt.Sprint("subset table of ", g)
		table, code := impl.SubsetTable(g)
		sameCode(t, what, code, impl.ErrNone)
		same(t, what, table, handTable(g))
		parts, _ := impl.PartsOf(g)
		rank, _ := impl.RankOf(g)
		same(t, what, int64(len(table)), g.Size-int64(len(parts))+1)
		subsets, forests, spanning := int64(0), int64(0), int64(0)
		for i, row := range table {
			same(t, what, int64(len(row)), rank+1)
			forests += row[0]
			for _, n := range row {
				subsets += n
				if i == 0 {
					spanning += n
				}
			}
		}
		same(t, what, subsets, int64(1)<<len(g.Edges))
		same(t, "forests, "+what, number(t, impl.CountForests, g), forests)
		trees := table[0][0]
		if len(parts) > 1 {
			trees, spanning = 0, 0
		}
		same(t, "trees, "+what, number(t, impl.CountTrees, g), trees)
		same(t, "connected subsets, "+what, number(t, impl.CountConnected, g), spanning)
	}
}

func TestSubsetTablesByText(t *testing.T) {
	for _, c := range []struct {
		text string
		want [][]int64
	}{
		{"1:", [][]int64{{1}}},
		{"8:", [][]int64{{1}}},
		{"1:0-0", [][]int64{{1, 1}}},
		{"1:0-0,0-0,0-0,0-0,0-0,0-0,0-0,0-0,0-0,0-0", [][]int64{{1, 10, 45, 120, 210, 252, 210, 120, 45, 10, 1}}},
		{"2:0-1", [][]int64{{1}, {1}}},
		{"2:0-0", [][]int64{{1, 1}}},
		{"2:0-1,0-1,0-1", [][]int64{{3, 3, 1}, {1, 0, 0}}},
		{"2:0-0,0-1,1-1", [][]int64{{1, 2, 1}, {1, 2, 1}}},
		{"3:0-1,1-2,2-0", [][]int64{{3, 1}, {3, 0}, {1, 0}}},
		{"4:0-1,2-3", [][]int64{{1}, {2}, {1}}},
		{"4:0-1,1-2,2-3,3-0", [][]int64{{4, 1}, {6, 0}, {4, 0}, {1, 0}}},
		{"8:0-1,1-2,2-3,3-4,4-5,5-6,6-7", [][]int64{{1}, {7}, {21}, {35}, {35}, {21}, {7}, {1}}},
	} {
		table, code := impl.SubsetTable(parsed(t, c.text))
		sameCode(t, "SubsetTable of "+c.text, code, impl.ErrNone)
		same(t, "SubsetTable of "+c.text, table, c.want)
	}
}

// divisor returns the greatest common divisor of two numbers, by trial.
func divisor(a int64, b int64) int64 {
	for d := max(a, b); d > 0; d-- {
		if a%d == 0 && b%d == 0 {
			return d
		}
	}
	return 0
}

// checkPair checks the parting number and the resistance of different vertices.
func checkPair(t *testing.T, g impl.Graph, a int64, b int64, want int64) {
	t.Helper()
	what := fmt.Sprint(" of ", g, a, b)
	parting, code := impl.PartingNumber(g, a, b)
	checkNumber(t, "PartingNumber"+what, parting, code, want)
	trees := number(t, impl.CountTrees, g)
	over, under, code := impl.ResistanceOf(g, a, b)
	if trees == 0 {
		sameCode(t, "ResistanceOf"+what, code, impl.ErrState)
		same(t, "ResistanceOf"+what, []int64{over, under}, []int64{0, 0})
		return
	}
	d := divisor(parting, trees)
	sameCode(t, "ResistanceOf"+what, code, impl.ErrNone)
	same(t, "ResistanceOf"+what, []int64{over, under}, []int64{parting / d, trees / d})
}

func TestPartingNumbersAndResistances(t *testing.T) {
	for i, g := range treeGraphs(t) {
		if i%2 != 0 && len(g.Edges) > 8 && g.Size > 4 {
			continue
		}
		all := handSubsets(g)
		rows := handLaplacian(g)
		for a := range g.Size {
			for b := range g.Size {
				if a == b {
					continue
				}
				want := counted(all, func(s handSubset) bool {
					return s.isForest() && s.parts == 2 && s.part[a] != s.part[b]
				})
				checkPair(t, g, a, b, want)
				same(t, fmt.Sprint("determinant of ", g, a, b), determinantRest(without(rows, a, b)), uint64(want))
			}
		}
	}
}

func TestResistancesOfEdges(t *testing.T) {
	for _, g := range treeGraphs(t) {
		trees := number(t, impl.CountTrees, g)
		sum := int64(0)
		for k, e := range g.Edges {
			if e[0] == e[1] {
				continue
			}
			// A spanning tree with an edge is, without it, a forest that parts its vertices.
			with, code := impl.TreesWith(g, int64(k))
			sameCode(t, "TreesWith", code, impl.ErrNone)
			parting, code := impl.PartingNumber(g, e[0], e[1])
			checkNumber(t, fmt.Sprint("PartingNumber of ", g, e), parting, code, with)
			sum += parting
		}
		same(t, fmt.Sprint("resistances of all edges of ", g), sum, (g.Size-1)*trees)
	}
}

func TestResistancesByText(t *testing.T) {
	for _, c := range []struct {
		text        string
		a, b        int64
		over, under int64
	}{
		{"2:0-1", 0, 1, 1, 1},
		{"2:0-1", 1, 0, 1, 1},
		{"2:0-0,0-1,1-1", 0, 1, 1, 1},
		{"2:0-1,0-1,0-1", 0, 1, 1, 3},
		{"2:0-1,0-1,0-1,0-1,0-1,0-1,0-1,0-1,0-1,0-1", 1, 0, 1, 10},
		{"3:0-1,1-2,2-0", 0, 2, 2, 3},
		{"3:0-1,0-1,1-2,1-2", 0, 2, 1, 1},
		{"3:0-1,0-1,1-2,1-2,1-2", 0, 2, 5, 6},
		{"4:0-1,1-2,2-3,3-0", 0, 1, 3, 4},
		{"4:0-1,1-2,2-3,3-0", 0, 2, 1, 1},
		{"4:0-1,1-2,2-3,3-0,0-2", 0, 2, 1, 2},
		{"4:0-1,1-2,2-3,3-0,0-2", 1, 3, 1, 1},
		{"4:0-1,1-2,2-3,3-0,0-2", 0, 1, 5, 8},
		{"4:0-1,0-2,0-3,1-2,1-3,2-3", 2, 3, 1, 2},
		{"4:0-1,0-2,0-3", 1, 3, 2, 1},
		{"6:0-3,0-4,0-5,1-3,1-4,1-5,2-3,2-4,2-5", 0, 3, 5, 9},
		{"6:0-3,0-4,0-5,1-3,1-4,1-5,2-3,2-4,2-5", 0, 1, 2, 3},
		{"8:0-1,1-2,2-3,3-4,4-5,5-6,6-7", 0, 7, 7, 1},
		{"8:0-1,1-2,2-3,3-4,4-5,5-6,6-7,7-0", 0, 4, 2, 1},
		{"8:0-1,1-2,2-3,3-4,4-5,5-6,6-7,7-0", 6, 0, 3, 2},
	} {
		over, under, code := impl.ResistanceOf(parsed(t, c.text), c.a, c.b)
		sameCode(t, "ResistanceOf of "+c.text, code, impl.ErrNone)
		same(t, fmt.Sprint("ResistanceOf of ", c.text, c.a, c.b), []int64{over, under}, []int64{c.over, c.under})
	}
}

func TestPartingNumbersOfGraphsInParts(t *testing.T) {
	for _, c := range []struct {
		text string
		a, b int64
		want int64
	}{
		{"2:", 0, 1, 1},
		{"2:0-0,1-1", 1, 0, 1},
		{"3:0-1", 0, 1, 0},
		{"3:0-1", 0, 2, 1},
		{"3:0-1,1-0", 2, 1, 2},
		{"3:", 0, 2, 0},
		{"8:", 0, 7, 0},
		{"4:0-1,2-3", 0, 3, 1},
		{"4:0-1,2-3", 0, 1, 0},
		{"6:0-1,1-2,2-0,3-4,4-5,5-3", 0, 5, 9},
		{"6:0-1,1-2,2-0,3-4,4-5,5-3", 3, 5, 0},
		{"6:0-1,1-2,2-0,3-4,4-5", 0, 5, 3},
	} {
		g := parsed(t, c.text)
		n, code := impl.PartingNumber(g, c.a, c.b)
		checkNumber(t, fmt.Sprint("PartingNumber of ", c.text, c.a, c.b), n, code, c.want)
		over, under, code := impl.ResistanceOf(g, c.a, c.b)
		sameCode(t, "ResistanceOf of "+c.text, code, impl.ErrState)
		same(t, "ResistanceOf of "+c.text, []int64{over, under}, []int64{0, 0})
	}
}

// colourings returns the number of colourings by trying all, and reports whether they are few
// enough for that.
func colourings(g impl.Graph, k int64) (int64, bool) {
	tries := int64(1)
	for range g.Size {
		tries *= k
		if tries > 7000 {
			return 0, false
		}
	}
	count := int64(0)
	for try := range tries {
		colours := make([]int64, g.Size)
		for v := range colours {
			colours[v] = try % k
			try /= k
		}
		if !slices.ContainsFunc(g.Edges, func(e []int64) bool { return colours[e[0]] == colours[e[1]] }) {
			count++
		}
	}
	return count, true
}

func TestChromaticPolynomialsTellColourings(t *testing.T) {
	tried := 0
	for _, g := range treeGraphs(t) {
		what := fmt.Sprint("chromatic polynomial of ", g)
		chromatic, code := impl.ChromaticOf(g)
		sameCode(t, what, code, impl.ErrNone)
		same(t, what, impl.IsWhole(chromatic), true)
		for k := range int64(21) {
			n, code := impl.CountColourings(g, k)
			sameCode(t, what, code, impl.ErrNone)
			value, code := impl.ValueOfWhole(chromatic, k)
			checkNumber(t, fmt.Sprint(what, " at ", k), value, code, n)
			if want, ok := colourings(g, k); ok {
				tried++
				same(t, fmt.Sprint("colourings of ", g, " by ", k), n, want)
			}
		}
		bipartite, _ := impl.IsBipartite(g)
		two, _ := impl.CountColourings(g, 2)
		same(t, "colourings by two of "+what, two > 0, bipartite)
	}
	if tried < 1500 {
		t.Errorf("only %d numbers of colourings were tried", tried)
	}
}

func TestChromaticPolynomialsBySubsets(t *testing.T) {
	for _, g := range treeGraphs(t) {
		what := fmt.Sprint("chromatic polynomial of ", g)
		want := make([]int64, g.Size+1)
		for _, s := range handSubsets(g) {
			want[s.parts] += 1 - 2*int64(len(s.list)%2)
		}
		chromatic, code := impl.ChromaticOf(g)
		sameCode(t, what, code, impl.ErrNone)
		same(t, what, chromatic, cut(want))
		for k, e := range g.Edges {
			deleted, _ := impl.DeleteEdge(g, int64(k))
			if e[0] == e[1] {
				same(t, what, len(chromatic), 0)
				continue
			}
			contracted, _ := impl.ContractEdge(g, int64(k))
			more, _ := impl.ChromaticOf(deleted)
			less, _ := impl.ChromaticOf(contracted)
			difference, code := impl.AddWhole(more, less, -1)
			sameCode(t, what, code, impl.ErrNone)
			same(t, fmt.Sprint(what, " by ", k), chromatic, difference)
		}
	}
}

func TestChromaticPolynomialsByText(t *testing.T) {
	for _, c := range []struct {
		text string
		want []int64
	}{
		{"1:", []int64{0, 1}},
		{"2:", []int64{0, 0, 1}},
		{"8:", []int64{0, 0, 0, 0, 0, 0, 0, 0, 1}},
		{"2:0-1", []int64{0, -1, 1}},
		{"2:0-1,1-0,0-1", []int64{0, -1, 1}},
		{"3:0-1,1-2,2-0", []int64{0, 2, -3, 1}},
		{"4:0-1,2-3", []int64{0, 0, 1, -2, 1}},
		{"4:0-1,0-2,0-3,1-2,1-3,2-3", []int64{0, -6, 11, -6, 1}},
		{"5:0-1,0-2,0-3,0-4,1-2,1-3,1-4,2-3,2-4,3-4", []int64{0, 24, -50, 35, -10, 1}},
		{"8:0-1,1-2,2-3,3-4,4-5,5-6,6-7", []int64{0, -1, 7, -21, 35, -35, 21, -7, 1}},
		{"1:0-0", nil},
		{"2:0-0,0-1,1-1", nil},
		{"8:0-1,1-2,2-3,3-4,4-5,5-6,6-7,7-7", nil},
		{"1:0-0,0-0,0-0,0-0,0-0,0-0,0-0,0-0,0-0,0-0", nil},
	} {
		chromatic, code := impl.ChromaticOf(parsed(t, c.text))
		sameCode(t, "ChromaticOf of "+c.text, code, impl.ErrNone)
		same(t, "ChromaticOf of "+c.text, chromatic, c.want)
	}
}

func TestColouringsByText(t *testing.T) {
	for _, c := range []struct {
		text string
		k    int64
		want int64
	}{
		{"1:", 0, 0}, {"1:", 1, 1}, {"1:", 20, 20},
		{"8:", 0, 0}, {"8:", 1, 1}, {"8:", 19, 16983563041}, {"8:", 20, 25600000000},
		{"1:0-0", 0, 0}, {"1:0-0", 1, 0}, {"1:0-0", 20, 0},
		{"2:0-0,0-1,1-1", 20, 0},
		{"2:0-1", 0, 0}, {"2:0-1", 1, 0}, {"2:0-1", 2, 2}, {"2:0-1", 20, 380},
		{"2:0-1,0-1,0-1,0-1,0-1,0-1,0-1,0-1,0-1,0-1", 20, 380},
		{"3:0-1,1-2,2-0", 2, 0}, {"3:0-1,1-2,2-0", 3, 6}, {"3:0-1,1-2,2-0", 20, 6840},
		{"4:0-1,0-2,0-3,1-2,1-3,2-3", 3, 0}, {"4:0-1,0-2,0-3,1-2,1-3,2-3", 4, 24},
		{"5:0-1,0-2,0-3,0-4,1-2,1-3,1-4,2-3,2-4,3-4", 20, 1860480},
		{"8:0-1,1-2,2-3,3-4,4-5,5-6,6-7", 20, 17877434780},
		{"8:0-1,1-2,2-3,3-4,4-5,5-6,6-7,7-0", 20, 16983563060},
	} {
		n, code := impl.CountColourings(parsed(t, c.text), c.k)
		checkNumber(t, fmt.Sprint("CountColourings of ", c.text, " by ", c.k), n, code, c.want)
	}
}

func TestTreesByName(t *testing.T) {
	for _, c := range []struct {
		name                      string
		trees, forests, connected int64
	}{
		{"point", 1, 1, 1}, {"edge", 1, 2, 1}, {"loop", 1, 1, 2}, {"bouquet", 1, 1, 4}, {"theta", 3, 4, 7},
		{"dumbbell", 1, 2, 4}, {"triangle", 3, 7, 4}, {"square", 4, 15, 5}, {"pentagon", 5, 31, 6}, {"star", 1, 8, 1},
		{"diamond", 8, 24, 14}, {"tetrahedron", 16, 38, 38}, {"prism", 75, 314, 198}, {"houses", 81, 328, 205},
	} {
		g, code := impl.NamedGraph(c.name)
		sameCode(t, c.name, code, impl.ErrNone)
		same(t, "trees of "+c.name, number(t, impl.CountTrees, g), c.trees)
		same(t, "forests of "+c.name, number(t, impl.CountForests, g), c.forests)
		same(t, "connected subsets of "+c.name, number(t, impl.CountConnected, g), c.connected)
	}
	same(t, "names", len(impl.GraphNames()), 14)
}

// No graph has MaxTrees spanning trees: 10 edges have at most 252 subsets of the same number of
// edges. So the graphs with most trees that were found are listed, and none meets the limit.
func TestGraphsWithMostTrees(t *testing.T) {
	for _, c := range graphsWithMostTrees() {
		g := parsed(t, c.text)
		n, code := impl.CountTrees(g)
		checkNumber(t, "CountTrees of "+c.text, n, code, c.want)
		list, code := impl.SpanningTrees(g)
		sameCode(t, "SpanningTrees of "+c.text, code, impl.ErrNone)
		same(t, "SpanningTrees of "+c.text, int64(len(list)), c.want)
	}
	d := dice(51)
	for range 300 {
		g := rolledGraph(&d, d.between(4, 7), impl.MaxEdges)
		list, code := impl.SpanningTrees(g)
		sameCode(t, fmt.Sprint("SpanningTrees of ", g), code, impl.ErrNone)
		if len(list) > 252 {
			t.Errorf("SpanningTrees of %v: %d", g, len(list))
		}
	}
}

func TestTreesOfGreatGraphsWithoutEdgesOrWithLoops(t *testing.T) {
	for size := int64(1); size <= impl.MaxVertices; size++ {
		g := impl.Graph{Size: size}
		loops := impl.Graph{Size: size, Edges: slices.Repeat([][]int64{{size - 1, size - 1}}, impl.MaxEdges)}
		one := int64(0)
		if size == 1 {
			one = 1
		}
		same(t, "trees", number(t, impl.CountTrees, g), one)
		same(t, "forests", number(t, impl.CountForests, g), int64(1))
		same(t, "connected subsets", number(t, impl.CountConnected, g), one)
		same(t, "trees with loops", number(t, impl.CountTrees, loops), one)
		same(t, "forests with loops", number(t, impl.CountForests, loops), int64(1))
		same(t, "connected subsets with loops", number(t, impl.CountConnected, loops), 1024*one)
		for _, x := range []impl.Graph{g, loops} {
			yes, code := impl.IsTree(x, nil)
			sameCode(t, "IsTree", code, impl.ErrNone)
			same(t, "the empty subset as a tree", yes, size == 1)
			rank, code := impl.SubsetRank(x, []int64{})
			checkNumber(t, "SubsetRank", rank, code, 0)
			list, code := impl.SpanningTrees(x)
			sameCode(t, "SpanningTrees", code, impl.ErrNone)
			same(t, "number of trees", int64(len(list)), one)
		}
		everything := []int64{0, 1, 2, 3, 4, 5, 6, 7, 8, 9}
		rank, code := impl.SubsetRank(loops, everything)
		checkNumber(t, "SubsetRank of loops", rank, code, 0)
		yes, code := impl.IsTree(loops, everything)
		sameCode(t, "IsTree", code, impl.ErrNone)
		same(t, "loops as a tree", yes, false)
	}
}

// treeFunctions returns the functions of a graph alone, with the zero values of their results.
func treeFunctions() map[string]struct {
	f    func(impl.Graph) (any, int64)
	zero any
} {
	return map[string]struct {
		f    func(impl.Graph) (any, int64)
		zero any
	}{
		"CountTrees":     {func(g impl.Graph) (any, int64) { x, e := impl.CountTrees(g); return x, e }, int64(0)},
		"SpanningTrees":  {func(g impl.Graph) (any, int64) { x, e := impl.SpanningTrees(g); return x, e }, [][]int64(nil)},
		"CountForests":   {func(g impl.Graph) (any, int64) { x, e := impl.CountForests(g); return x, e }, int64(0)},
		"CountConnected": {func(g impl.Graph) (any, int64) { x, e := impl.CountConnected(g); return x, e }, int64(0)},
		"LaplacianRows":  {func(g impl.Graph) (any, int64) { x, e := impl.LaplacianRows(g); return x, e }, [][]int64(nil)},
		"SubsetTable":    {func(g impl.Graph) (any, int64) { x, e := impl.SubsetTable(g); return x, e }, [][]int64(nil)},
		"ChromaticOf":    {func(g impl.Graph) (any, int64) { x, e := impl.ChromaticOf(g); return x, e }, []int64(nil)},
	}
}

// checkSubsetCode checks that a list is refused with a code.
func checkSubsetCode(t *testing.T, g impl.Graph, list []int64, want int64) {
	t.Helper()
	what := fmt.Sprint(" of ", g.Size, len(g.Edges), list)
	yes, code := impl.IsTree(g, list)
	sameCode(t, "IsTree"+what, code, want)
	same(t, "IsTree"+what, yes, false)
	rank, code := impl.SubsetRank(g, list)
	sameCode(t, "SubsetRank"+what, code, want)
	same(t, "SubsetRank"+what, rank, int64(0))
}

// checkPairCode checks that two vertices are refused with a code.
func checkPairCode(t *testing.T, g impl.Graph, a int64, b int64, want int64) {
	t.Helper()
	what := fmt.Sprint(" of ", g.Size, len(g.Edges), a, b)
	parting, code := impl.PartingNumber(g, a, b)
	sameCode(t, "PartingNumber"+what, code, want)
	same(t, "PartingNumber"+what, parting, int64(0))
	over, under, code := impl.ResistanceOf(g, a, b)
	sameCode(t, "ResistanceOf"+what, code, want)
	same(t, "ResistanceOf"+what, []int64{over, under}, []int64{0, 0})
}

// checkNumberCode checks that an edge, or a number of colours, is refused with a code.
func checkNumberCode(t *testing.T, name string, f func(impl.Graph, int64) (int64, int64), g impl.Graph, k int64, want int64) {
	t.Helper()
	n, code := f(g, k)
	sameCode(t, fmt.Sprint(name, " of ", g.Size, len(g.Edges), k), code, want)
	same(t, fmt.Sprint(name, " of ", g.Size, len(g.Edges), k), n, int64(0))
}

func TestTreeFunctionsRefuseWhatIsNoGraph(t *testing.T) {
	for _, bad := range badGraphs() {
		for name, c := range treeFunctions() {
			result, code := c.f(bad)
			sameCode(t, fmt.Sprint(name, bad.Size, len(bad.Edges)), code, impl.ErrInvalid)
			same(t, fmt.Sprint(name, bad.Size, len(bad.Edges)), result, c.zero)
		}
		// What is no graph is found before a number or a list that is not as told.
		for _, k := range append(outside(2), 0, 1, 20, 21) {
			checkNumberCode(t, "TreesWith", impl.TreesWith, bad, k, impl.ErrInvalid)
			checkNumberCode(t, "CountColourings", impl.CountColourings, bad, k, impl.ErrInvalid)
			checkPairCode(t, bad, k, 0, impl.ErrInvalid)
			checkPairCode(t, bad, 1, k, impl.ErrInvalid)
			checkSubsetCode(t, bad, []int64{k}, impl.ErrInvalid)
			checkSubsetCode(t, bad, []int64{0, k}, impl.ErrInvalid)
		}
		checkSubsetCode(t, bad, nil, impl.ErrInvalid)
	}
}

func TestTreeFunctionsRefuseNumbersOutOfRange(t *testing.T) {
	for _, text := range []string{"1:", "8:", "1:0-0", "2:0-1", "4:0-1,2-3", "3:0-1,1-2,2-0",
		"8:0-1,1-2,2-3,3-4,4-5,5-6,6-7,7-0,0-4,2-6"} {
		g := parsed(t, text)
		for _, k := range outside(int64(len(g.Edges))) {
			checkNumberCode(t, "TreesWith", impl.TreesWith, g, k, impl.ErrRange)
		}
		for _, k := range outside(21) {
			checkNumberCode(t, "CountColourings", impl.CountColourings, g, k, impl.ErrRange)
		}
		for v := range g.Size {
			// Equal vertices, and those that are none, are found before that a graph is in parts.
			checkPairCode(t, g, v, v, impl.ErrRange)
			for _, w := range outside(g.Size) {
				checkPairCode(t, g, v, w, impl.ErrRange)
				checkPairCode(t, g, w, v, impl.ErrRange)
				checkPairCode(t, g, w, w, impl.ErrRange)
			}
		}
	}
}

func TestTreeFunctionsRefuseListsThatAreNoSubsets(t *testing.T) {
	for _, text := range []string{"1:", "8:", "1:0-0", "4:0-1,2-3", "3:0-1,1-2,2-0", "8:0-1,1-2,2-3,3-4,4-5,5-6,6-7,7-0,0-4,2-6"} {
		g := parsed(t, text)
		n := int64(len(g.Edges))
		var ascending []int64
		for k := range n {
			ascending = append(ascending, k)
		}
		for _, k := range outside(n) {
			checkSubsetCode(t, g, []int64{k}, impl.ErrRange)
			checkSubsetCode(t, g, append(slices.Clone(ascending), k), impl.ErrRange)
			checkSubsetCode(t, g, append([]int64{k}, ascending...), impl.ErrRange)
			checkSubsetCode(t, g, []int64{k, k}, impl.ErrRange)
		}
		checkSubsetCode(t, g, filled(1000, 0), impl.ErrRange)
		checkSubsetCode(t, g, filled(11, 0), impl.ErrRange)
		checkSubsetCode(t, g, []int64{math.MinInt64, math.MaxInt64}, impl.ErrRange)
		for k := range n {
			checkSubsetCode(t, g, []int64{k, k}, impl.ErrRange)
			for i := range k {
				checkSubsetCode(t, g, []int64{k, i}, impl.ErrRange)
				checkSubsetCode(t, g, []int64{i, k, k}, impl.ErrRange)
				checkSubsetCode(t, g, []int64{i, i, k}, impl.ErrRange)
				checkSubsetCode(t, g, []int64{i, k, i}, impl.ErrRange)
			}
		}
		if n > 0 {
			rank, code := impl.SubsetRank(g, ascending)
			checkNumber(t, "SubsetRank of all", rank, code, handSubsetOf(g, ascending).rank)
		}
	}
}

// treeResults returns a text of all that the functions of chapter 5 return for a graph.
func treeResults(g impl.Graph) string {
	var results []any
	for _, name := range []string{"CountTrees", "SpanningTrees", "CountForests", "CountConnected", "LaplacianRows", "SubsetTable", "ChromaticOf"} {
		result, code := treeFunctions()[name].f(g)
		results = append(results, result, code)
	}
	for k := range int64(3) {
		n, code := impl.TreesWith(g, k)
		results = append(results, n, code)
		n, code = impl.CountColourings(g, k+18)
		results = append(results, n, code)
		n, code = impl.PartingNumber(g, 0, k)
		results = append(results, n, code)
		over, under, code := impl.ResistanceOf(g, k, 0)
		results = append(results, over, under, code)
		yes, code := impl.IsTree(g, []int64{k})
		results = append(results, yes, code)
		n, code = impl.SubsetRank(g, []int64{0, k})
		results = append(results, n, code)
	}
	return fmt.Sprint(results...)
}

func TestTreeResultsDependOnArgumentsAlone(t *testing.T) {
	graphs := treeGraphs(t)
	wants := make([]string, len(graphs))
	for i, g := range graphs {
		wants[i] = treeResults(g)
	}
	for _, processors := range []int{1, 2, 8} {
		before := runtime.GOMAXPROCS(processors)
		var callers sync.WaitGroup
		for i, g := range graphs {
			// Several callers use the same graph at the same time.
			for range 2 {
				callers.Go(func() {
					if got := treeResults(g); got != wants[i] {
						t.Errorf("results of %v: got %s, want %s", g, got, wants[i])
					}
				})
			}
		}
		callers.Wait()
		runtime.GOMAXPROCS(before)
	}
}

func TestNoGoroutineGoesOn(t *testing.T) {
	before := runtime.NumGoroutine()
	for _, text := range []string{"1:", "8:", "3:0-1,1-2,2-0", "2:", "5:2-3,2-4,2-0,2-1,4-1,4-0,1-3,0-3,1-0,3-4"} {
		treeResults(parsed(t, text))
	}
	for _, bad := range badGraphs() {
		treeResults(bad)
	}
	// The last goroutine may still be on its way out behind its last step.
	for range 1000 {
		if runtime.NumGoroutine() <= before {
			return
		}
		time.Sleep(time.Millisecond)
	}
	t.Errorf("there are %d goroutines, and were %d before", runtime.NumGoroutine(), before)
}

func TestTreeResultsShareNoMemory(t *testing.T) {
	for _, sample := range treeGraphs(t) {
		g := roomyGraph(sample)
		before := wholeRows(g.Edges)
		results := treeResults(g)
		for _, f := range []func(impl.Graph) ([][]int64, int64){impl.SpanningTrees, impl.LaplacianRows, impl.SubsetTable} {
			rows, code := f(g)
			sameCode(t, "rows", code, impl.ErrNone)
			ownRows(t, fmt.Sprint("rows of ", sample), rows)
		}
		chromatic, _ := impl.ChromaticOf(g)
		scribble(chromatic)
		for _, list := range [][]int64{nil, {0}, {0, 1}, {0, 2}, {1, 0}, {0, 0}, {9}, filled(21, 0)} {
			subset := roomy(list)
			memory := wholeMemory(subset)
			impl.IsTree(g, subset)
			impl.SubsetRank(g, subset)
			same(t, fmt.Sprint("memory of ", list), wholeMemory(subset), memory)
		}
		same(t, fmt.Sprint("memory of ", sample), wholeRows(g.Edges), before)
		same(t, fmt.Sprint("results of ", sample), treeResults(g), results)
	}
}
