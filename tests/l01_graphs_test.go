package tests

import (
	"fmt"
	"math"
	"regexp"
	"strings"
	"testing"

	"loop.example/g01298/impl"
)

func TestErrorCodes(t *testing.T) {
	same(t, "codes", []int64{impl.ErrNone, impl.ErrInvalid, impl.ErrRange, impl.ErrLimit, impl.ErrNotFound,
		impl.ErrState, impl.ErrSyntax}, []int64{0, 1, 2, 3, 4, 5, 6})
	same(t, "limits", []int64{impl.MaxVertices, impl.MaxEdges, impl.MaxPoly, impl.MaxWhole},
		[]int64{8, 10, 40, 1000000000000000})
}

func TestIsGraph(t *testing.T) {
	for _, g := range sampleGraphs() {
		if !impl.IsGraph(g) {
			t.Errorf("IsGraph(%v) is false", g)
		}
	}
	for _, g := range badGraphs() {
		if impl.IsGraph(g) {
			t.Errorf("IsGraph(%v) is true", g)
		}
	}
}

// directedEdges returns both vertices of each directed edge, in their order.
func directedEdges(g impl.Graph) [][2]int64 {
	var list [][2]int64
	for _, e := range g.Edges {
		list = append(list, [2]int64{e[0], e[1]}, [2]int64{e[1], e[0]})
	}
	return list
}

func TestDegreesAddUpToDirectedEdges(t *testing.T) {
	for _, g := range sampleGraphs() {
		degrees, code := impl.DegreesOf(g)
		sameCode(t, "DegreesOf", code, impl.ErrNone)
		want := make([]int64, g.Size)
		for _, e := range directedEdges(g) {
			want[e[0]]++
		}
		same(t, fmt.Sprint("degrees of ", g), degrees, want)
		sum := int64(0)
		for _, d := range degrees {
			sum += d
		}
		same(t, fmt.Sprint("sum of degrees of ", g), sum, int64(2*len(g.Edges)))
	}
}

func TestDegreesOfLoopsAndParallelEdges(t *testing.T) {
	for text, want := range map[string][]int64{
		"1:": {0}, "1:0-0": {2}, "1:0-0,0-0": {4}, "2:0-1,1-0,0-1": {3, 3}, "3:1-1,1-2": {0, 3, 1},
	} {
		degrees, _ := impl.DegreesOf(parsed(t, text))
		same(t, "degrees of "+text, degrees, want)
	}
}

func TestAdjacencyCountsDirectedEdges(t *testing.T) {
	for _, g := range sampleGraphs() {
		rows, code := impl.AdjacencyOf(g)
		sameCode(t, "AdjacencyOf", code, impl.ErrNone)
		want := make([][]int64, g.Size)
		for i := range want {
			want[i] = make([]int64, g.Size)
		}
		for _, e := range directedEdges(g) {
			want[e[0]][e[1]]++
		}
		same(t, fmt.Sprint("adjacency rows of ", g), rows, want)
	}
	rows, _ := impl.AdjacencyOf(parsed(t, "1:0-0"))
	same(t, "adjacency rows of loop", rows, [][]int64{{2}})
}

// reachable tells for all vertices whether one can go from one to the other one.
func reachable(g impl.Graph) [][]bool {
	reach := make([][]bool, g.Size)
	for v := range reach {
		reach[v] = make([]bool, g.Size)
		reach[v][v] = true
	}
	for _, e := range directedEdges(g) {
		reach[e[0]][e[1]] = true
	}
	for k := range reach {
		for i := range reach {
			for j := range reach {
				reach[i][j] = reach[i][j] || reach[i][k] && reach[k][j]
			}
		}
	}
	return reach
}

func TestPartsAndRanks(t *testing.T) {
	for _, g := range sampleGraphs() {
		var want [][]int64
		listed := make([]bool, g.Size)
		for v, row := range reachable(g) {
			if listed[v] {
				continue
			}
			var part []int64
			for w, yes := range row {
				if yes {
					part = append(part, int64(w))
					listed[w] = true
				}
			}
			want = append(want, part)
		}
		parts, code := impl.PartsOf(g)
		sameCode(t, "PartsOf", code, impl.ErrNone)
		same(t, fmt.Sprint("parts of ", g), parts, want)
		rank, code := impl.RankOf(g)
		sameCode(t, "RankOf", code, impl.ErrNone)
		same(t, fmt.Sprint("rank of ", g), rank, int64(len(g.Edges))-g.Size+int64(len(want)))
	}
}

func TestPartsOfLongWays(t *testing.T) {
	for text, want := range map[string][][]int64{
		"8:":                            {{0}, {1}, {2}, {3}, {4}, {5}, {6}, {7}},
		"8:7-6,6-5,5-4,4-3,3-2,2-1,1-0": {{0, 1, 2, 3, 4, 5, 6, 7}},
		"8:0-7,7-1,1-6,6-2,2-5,5-3,3-4": {{0, 1, 2, 3, 4, 5, 6, 7}},
		"8:6-7,5-7,4-7,0-2,2-4,1-3":     {{0, 2, 4, 5, 6, 7}, {1, 3}},
	} {
		parts, _ := impl.PartsOf(parsed(t, text))
		same(t, "parts of "+text, parts, want)
	}
}

func TestBipartiteGraphsHaveNoOddClosedWalks(t *testing.T) {
	for _, g := range sampleGraphs() {
		// odd and even tell whether there is a walk of such a length.
		odd, even := map[[2]int64]bool{}, map[[2]int64]bool{}
		for v := range g.Size {
			even[[2]int64{v, v}] = true
		}
		for range 2 * g.Size {
			for v := range g.Size {
				for _, e := range directedEdges(g) {
					odd[[2]int64{v, e[1]}] = odd[[2]int64{v, e[1]}] || even[[2]int64{v, e[0]}]
					even[[2]int64{v, e[1]}] = even[[2]int64{v, e[1]}] || odd[[2]int64{v, e[0]}]
				}
			}
		}
		want := true
		for v := range g.Size {
			want = want && !odd[[2]int64{v, v}]
		}
		yes, code := impl.IsBipartite(g)
		sameCode(t, "IsBipartite", code, impl.ErrNone)
		same(t, fmt.Sprint("bipartite ", g), yes, want)
	}
}

func TestBipartiteByName(t *testing.T) {
	for name, want := range map[string]bool{"point": true, "edge": true, "loop": false, "theta": true,
		"dumbbell": false, "triangle": false, "square": true, "pentagon": false, "star": true,
		"prism": false, "houses": true} {
		g, _ := impl.NamedGraph(name)
		yes, _ := impl.IsBipartite(g)
		same(t, "bipartite "+name, yes, want)
	}
}

func TestDeletingChangesRanks(t *testing.T) {
	for _, g := range sampleGraphs() {
		rank, _ := impl.RankOf(g)
		for k := range g.Edges {
			h, code := impl.DeleteEdge(g, int64(k))
			sameCode(t, "DeleteEdge", code, impl.ErrNone)
			var want [][]int64
			want = append(want, g.Edges[:k]...)
			want = append(want, g.Edges[k+1:]...)
			same(t, fmt.Sprint("deleted ", k, " of ", g), h, impl.Graph{Size: g.Size, Edges: want})
			// The rank stays if the edge was the only way between its vertices.
			if reachable(h)[g.Edges[k][0]][g.Edges[k][1]] {
				rank--
			}
			less, _ := impl.RankOf(h)
			same(t, fmt.Sprint("rank without ", k, " of ", g), less, rank)
			rank, _ = impl.RankOf(g)
		}
	}
}

func TestContractingKeepsRanks(t *testing.T) {
	for _, g := range sampleGraphs() {
		rank, _ := impl.RankOf(g)
		for k, e := range g.Edges {
			h, code := impl.ContractEdge(g, int64(k))
			if e[0] == e[1] {
				sameCode(t, "ContractEdge of a loop", code, impl.ErrState)
				same(t, "contracted loop", h, impl.Graph{})
				continue
			}
			sameCode(t, "ContractEdge", code, impl.ErrNone)
			same(t, "size", h.Size, g.Size-1)
			same(t, "edges", len(h.Edges), len(g.Edges)-1)
			kept, _ := impl.RankOf(h)
			same(t, fmt.Sprint("rank with ", k, " contracted of ", g), kept, rank)
		}
	}
}

func TestContractedEdges(t *testing.T) {
	for _, c := range []struct {
		text string
		k    int64
		want string
	}{
		{"2:0-1", 0, "1:"},
		{"2:1-0", 0, "1:"},
		{"2:0-1,0-1,1-0", 1, "1:0-0,0-0"},
		{"3:0-1,1-2,2-0", 2, "2:0-1,1-0"},
		{"4:0-1,1-2,2-3,3-0,0-2", 1, "3:0-1,1-2,2-0,0-1"},
		{"5:3-1,4-4,2-3,1-4", 0, "4:3-3,2-1,1-3"},
		{"8:2-5,7-6,5-7,0-2,5-5,2-5", 0, "7:6-5,2-6,0-2,2-2,2-2"},
		{"8:0-7,7-7,7-6", 0, "7:0-0,0-6"},
	} {
		h, code := impl.ContractEdge(parsed(t, c.text), c.k)
		sameCode(t, "ContractEdge", code, impl.ErrNone)
		text, _ := impl.GraphText(h)
		same(t, fmt.Sprint("contracted ", c.k, " of ", c.text), text, c.want)
	}
}

func TestSubdividedEdges(t *testing.T) {
	for _, g := range sampleGraphs() {
		for k, e := range g.Edges {
			h, code := impl.SubdivideEdge(g, int64(k))
			if g.Size == 8 || len(g.Edges) == 10 {
				sameCode(t, "SubdivideEdge beyond limits", code, impl.ErrLimit)
				same(t, "subdivided beyond limits", h, impl.Graph{})
				continue
			}
			sameCode(t, "SubdivideEdge", code, impl.ErrNone)
			want := copyOfGraph(g)
			want.Size++
			want.Edges[k] = []int64{e[0], g.Size}
			want.Edges = append(want.Edges, []int64{g.Size, e[1]})
			same(t, fmt.Sprint("subdivided ", k, " of ", g), h, want)
		}
	}
	seven := parsed(t, "7:0-1,0-1,0-1,0-1,0-1,0-1,0-1,0-1,5-4")
	h, code := impl.SubdivideEdge(seven, 8)
	sameCode(t, "SubdivideEdge up to the limits", code, impl.ErrNone)
	text, _ := impl.GraphText(h)
	same(t, "subdivided up to the limits", text, "8:0-1,0-1,0-1,0-1,0-1,0-1,0-1,0-1,5-7,7-4")
}

func TestNamedGraphs(t *testing.T) {
	texts := [][2]string{{"point", "1:"}, {"edge", "2:0-1"}, {"loop", "1:0-0"}, {"bouquet", "1:0-0,0-0"},
		{"theta", "2:0-1,0-1,0-1"}, {"dumbbell", "2:0-0,0-1,1-1"}, {"triangle", "3:0-1,1-2,2-0"},
		{"square", "4:0-1,1-2,2-3,3-0"}, {"pentagon", "5:0-1,1-2,2-3,3-4,4-0"}, {"star", "4:0-1,0-2,0-3"},
		{"diamond", "4:0-1,1-2,2-3,3-0,0-2"}, {"tetrahedron", "4:0-1,0-2,0-3,1-2,1-3,2-3"},
		{"prism", "6:0-1,1-2,2-0,3-4,4-5,5-3,0-3,1-4,2-5"},
		{"houses", "6:0-3,0-4,0-5,1-3,1-4,1-5,2-3,2-4,2-5"}}
	var names []string
	for _, c := range texts {
		names = append(names, c[0])
		g, code := impl.NamedGraph(c[0])
		sameCode(t, "NamedGraph", code, impl.ErrNone)
		text, _ := impl.GraphText(g)
		same(t, c[0], text, c[1])
	}
	got := impl.GraphNames()
	same(t, "names", got, names)
	for i := range got {
		got[i] = ""
	}
	same(t, "names after a change of them", impl.GraphNames(), names)
	for _, name := range []string{"", "Point", "point ", " point", "points", "poin", "1:", "\x00", strings.Repeat("x", 9999)} {
		g, code := impl.NamedGraph(name)
		sameCode(t, "NamedGraph "+name, code, impl.ErrNotFound)
		same(t, "graph without name", g, impl.Graph{})
	}
}

func TestGraphsComeBackFromTheirTexts(t *testing.T) {
	for _, g := range sampleGraphs() {
		text, code := impl.GraphText(g)
		sameCode(t, "GraphText", code, impl.ErrNone)
		var parts []string
		for _, e := range g.Edges {
			parts = append(parts, fmt.Sprintf("%d-%d", e[0], e[1]))
		}
		same(t, "text", text, fmt.Sprintf("%d:%s", g.Size, strings.Join(parts, ",")))
		h, code := impl.ParseGraph(text)
		sameCode(t, "ParseGraph "+text, code, impl.ErrNone)
		same(t, "graph with the text "+text, h, g)
	}
}

// isGraphText reports whether a text is one of a graph, by its form.
func isGraphText(text string) bool {
	if !regexp.MustCompile(`\A[1-8]:([0-7]-[0-7](,[0-7]-[0-7]){0,9})?\z`).MatchString(text) {
		return false
	}
	for i := 2; i < len(text); i += 2 {
		if text[i] >= text[0] {
			return false
		}
	}
	return true
}

func TestParseGraphRefusesWhatIsNoText(t *testing.T) {
	bad := []string{"", ":", "3", "0:", "9:", "-1:", "+3:", "03:", "3::", " 3:", "3: ", "3:\n", "10:", "8:0-8", "3:,",
		"3:0", "3:0-", "3:-0", "3:-", "3:0-1,", "3:,0-1", "3:0-1,,1-2", "3:0-1;1-2", "3:0-1-1", "3:0--1", "3:00-1",
		"3:0-01", "3:+0-1", "3:0-+1", "3:-0-1", "3:0-3", "3:3-0", "3:0-1 ", "3:0 -1", "3:0_0-1", "0x3:", "3.0:", "1e0:",
		"99999999999999999999:", "3:0-99999999999999999999", "3:0-9223372036854775807", "3:0-18446744073709551616",
		"-9223372036854775808:", "\u0663:", "3:0-1\x00", "\xff", "1:0-0,0-0,0-0,0-0,0-0,0-0,0-0,0-0,0-0,0-0,0-0",
		strings.Repeat("1", 5000) + ":", "1:" + strings.Repeat("0-0,", 5000) + "0-0", strings.Repeat(":", 5000)}
	for _, text := range bad {
		g, code := impl.ParseGraph(text)
		sameCode(t, "ParseGraph "+text, code, impl.ErrSyntax)
		same(t, "graph without text", g, impl.Graph{})
	}
	ten := "8:0-7,1-7,2-7,3-7,4-7,5-7,6-7,7-7,0-0,7-0"
	same(t, "graph with 10 edges", len(parsed(t, ten).Edges), 10)
}

func TestParseGraphOfChangedTexts(t *testing.T) {
	for _, text := range []string{"1:", "2:0-1", "4:0-1,3-3,2-1", "8:7-0"} {
		for at := range len(text) + 1 {
			for _, b := range []byte("0123789:-,+ \n\x00a") {
				changed := []string{text[:at] + string(b) + text[at:]}
				if at < len(text) {
					changed = append(changed, text[:at]+text[at+1:], text[:at]+string(b)+text[at+1:])
				}
				for _, other := range changed {
					checkParse(t, other)
				}
			}
		}
	}
}

// checkParse parses a text, and compares with what its form tells.
func checkParse(t *testing.T, text string) {
	t.Helper()
	g, code := impl.ParseGraph(text)
	if !isGraphText(text) {
		sameCode(t, "ParseGraph "+text, code, impl.ErrSyntax)
		return
	}
	sameCode(t, "ParseGraph "+text, code, impl.ErrNone)
	back, _ := impl.GraphText(g)
	same(t, "text again", back, text)
}

func TestFunctionsRefuseWhatIsNoGraph(t *testing.T) {
	for _, g := range badGraphs() {
		degrees, code := impl.DegreesOf(g)
		same(t, "DegreesOf", fmt.Sprint(degrees, code), "[] 1")
		parts, code := impl.PartsOf(g)
		same(t, "PartsOf", fmt.Sprint(parts, code), "[] 1")
		rank, code := impl.RankOf(g)
		same(t, "RankOf", fmt.Sprint(rank, code), "0 1")
		yes, code := impl.IsBipartite(g)
		same(t, "IsBipartite", fmt.Sprint(yes, code), "false 1")
		rows, code := impl.AdjacencyOf(g)
		same(t, "AdjacencyOf", fmt.Sprint(rows, code), "[] 1")
		text, code := impl.GraphText(g)
		same(t, "GraphText", fmt.Sprint(text, code), "1")
		// ErrInvalid comes before ErrRange.
		for _, k := range []int64{0, 1, -1, math.MaxInt64, math.MinInt64} {
			for name, f := range edgeFunctions() {
				h, code := f(g, k)
				same(t, name, fmt.Sprint(h, code), "{0 []} 1")
			}
		}
	}
}

// edgeFunctions returns the functions of a graph and an edge.
func edgeFunctions() map[string]func(impl.Graph, int64) (impl.Graph, int64) {
	return map[string]func(impl.Graph, int64) (impl.Graph, int64){
		"DeleteEdge": impl.DeleteEdge, "ContractEdge": impl.ContractEdge, "SubdivideEdge": impl.SubdivideEdge}
}

func TestFunctionsRefuseWhatIsNoEdge(t *testing.T) {
	for _, g := range sampleGraphs() {
		for _, k := range outside(int64(len(g.Edges))) {
			for name, f := range edgeFunctions() {
				// ErrRange comes before ErrLimit of graphs that are at a limit.
				h, code := f(g, k)
				same(t, fmt.Sprint(name, " of ", k), fmt.Sprint(h, code), "{0 []} 2")
			}
		}
	}
}

func TestGraphResultsShareNoMemory(t *testing.T) {
	for _, sample := range sampleGraphs() {
		g := roomyGraph(sample)
		before := wholeRows(g.Edges)
		degrees, _ := impl.DegreesOf(g)
		scribble(degrees)
		parts, _ := impl.PartsOf(g)
		ownRows(t, "PartsOf", parts)
		rows, _ := impl.AdjacencyOf(g)
		ownRows(t, "AdjacencyOf", rows)
		impl.IsGraph(g)
		impl.RankOf(g)
		impl.IsBipartite(g)
		text, _ := impl.GraphText(g)
		back, _ := impl.ParseGraph(text)
		ownRows(t, "ParseGraph", back.Edges)
		for name, f := range edgeFunctions() {
			for k := range g.Edges {
				h, _ := f(g, int64(k))
				ownRows(t, name, h.Edges)
			}
		}
		same(t, fmt.Sprint("memory of ", sample), wholeRows(g.Edges), before)
	}
	for _, name := range impl.GraphNames() {
		g, _ := impl.NamedGraph(name)
		before, _ := impl.GraphText(g)
		ownRows(t, "NamedGraph", g.Edges)
		again, _ := impl.NamedGraph(name)
		text, _ := impl.GraphText(again)
		same(t, name+" again", text, before)
	}
}
