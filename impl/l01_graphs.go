package impl

import (
	"slices"
	"strconv"
	"strings"
)

// Error codes of all chapters.
const (
	ErrNone = iota
	ErrInvalid
	ErrRange
	ErrLimit
	ErrNotFound
	ErrState
	ErrSyntax
)

// Limits of chapter 1.
const (
	MaxVertices = 8
	MaxEdges    = 10
	MaxPoly     = 40
	MaxWhole    = 1000000000000000
)

// Greatest absolute values of the factors of AddWhole, of the places of ValueOfWhole, and of the
// numbers in the rows of DeterminantWhole.
const (
	maxFactor = 1000
	maxPlace  = 1000
	maxEntry  = 20
)

// Graph is described in chapter 1.
type Graph struct {
	Size  int64
	Edges [][]int64
}

// edge is an edge, or a directed edge, by its vertices; other than a list of a Graph it can be
// compared, and be a key of a map.
type edge [2]int64

// reversed returns the edge the other way round.
func (e edge) reversed() edge { return edge{e[1], e[0]} }

// isLoop reports whether the edge has one vertex only.
func (e edge) isLoop() bool { return e == e.reversed() }

// edgesOf returns the edges of a graph.
func edgesOf(g Graph) []edge {
	edges := make([]edge, len(g.Edges))
	for k, list := range g.Edges {
		edges[k] = edge(list)
	}
	return edges
}

// graphWith returns a graph in new memory.
func graphWith(size int64, edges []edge) Graph {
	g := Graph{Size: size, Edges: make([][]int64, len(edges))}
	for k, e := range edges {
		g.Edges[k] = []int64{e[0], e[1]}
	}
	return g
}

// isIndex reports whether k is in 0..n - 1.
func isIndex(k int64, n int64) bool { return 0 <= k && k < n }

// isWithin reports whether x has an absolute value of at most limit.
func isWithin(x int64, limit int64) bool { return -limit <= x && x <= limit }

// IsGraph reports whether g is a graph.
func IsGraph(g Graph) bool {
	if g.Size < 1 || g.Size > MaxVertices || len(g.Edges) > MaxEdges {
		return false
	}
	for _, e := range g.Edges {
		if len(e) != 2 || !isIndex(e[0], g.Size) || !isIndex(e[1], g.Size) {
			return false
		}
	}
	return true
}

// DegreesOf returns the degrees of all vertices, and ErrNone.
func DegreesOf(g Graph) ([]int64, int64) {
	if !IsGraph(g) {
		return nil, ErrInvalid
	}
	degrees := make([]int64, g.Size)
	for _, e := range edgesOf(g) {
		degrees[e[0]]++
		degrees[e[1]]++
	}
	return degrees, ErrNone
}

// firstsOf returns for each vertex the first one of its part.
func firstsOf(g Graph) []int64 {
	firsts := make([]int64, g.Size)
	for v := range firsts {
		firsts[v] = int64(v)
	}
	// Each round takes the first vertex at least one edge further, and no way needs more than
	// Size - 1 edges.
	for range g.Size {
		for _, e := range edgesOf(g) {
			first := min(firsts[e[0]], firsts[e[1]])
			firsts[e[0]], firsts[e[1]] = first, first
		}
	}
	return firsts
}

// PartsOf returns the parts as ascending lists of vertices, in the order of their first ones, and
// ErrNone.
func PartsOf(g Graph) ([][]int64, int64) {
	if !IsGraph(g) {
		return nil, ErrInvalid
	}
	var parts [][]int64
	firsts := firstsOf(g)
	for v := range g.Size {
		var part []int64
		for w, first := range firsts {
			if first == v {
				part = append(part, int64(w))
			}
		}
		if len(part) > 0 {
			parts = append(parts, part)
		}
	}
	return parts, ErrNone
}

// RankOf returns the rank, and ErrNone.
func RankOf(g Graph) (int64, int64) {
	parts, code := PartsOf(g)
	if code != ErrNone {
		return 0, code
	}
	return int64(len(g.Edges)) - g.Size + int64(len(parts)), ErrNone
}

// IsBipartite reports whether g is bipartite, and returns ErrNone.
func IsBipartite(g Graph) (bool, int64) {
	if !IsGraph(g) {
		return false, ErrInvalid
	}
	for colours := range 1 << g.Size {
		if separates(colours, g) {
			return true, ErrNone
		}
	}
	return false, ErrNone
}

// separates reports whether the vertices of each edge have different colours, the colour of a
// vertex v being the bit v.
func separates(colours int, g Graph) bool {
	for _, e := range edgesOf(g) {
		if colours>>e[0]&1 == colours>>e[1]&1 {
			return false
		}
	}
	return true
}

// AdjacencyOf returns the adjacency rows, and ErrNone.
func AdjacencyOf(g Graph) ([][]int64, int64) {
	if !IsGraph(g) {
		return nil, ErrInvalid
	}
	counts := map[edge]int64{}
	for _, e := range edgesOf(g) {
		counts[e]++
		counts[e.reversed()]++
	}
	rows := zeroRows(int(g.Size))
	for i := range g.Size {
		for j := range g.Size {
			rows[i][j] = counts[edge{i, j}]
		}
	}
	return rows, ErrNone
}

// checkEdge returns ErrNone if g is a graph, and k one of its edges.
func checkEdge(g Graph, k int64) int64 {
	if !IsGraph(g) {
		return ErrInvalid
	}
	if !isIndex(k, int64(len(g.Edges))) {
		return ErrRange
	}
	return ErrNone
}

// DeleteEdge returns g with the edge k, in 0..number of edges less 1, deleted, and ErrNone.
func DeleteEdge(g Graph, k int64) (Graph, int64) {
	if code := checkEdge(g, k); code != ErrNone {
		return Graph{}, code
	}
	return graphWith(g.Size, edgesWithout(g, k)), ErrNone
}

// edgesWithout returns the edges of a graph other than the edge k.
func edgesWithout(g Graph, k int64) []edge {
	return slices.Delete(edgesOf(g), int(k), int(k)+1)
}

// ContractEdge returns g with the edge k contracted, and ErrNone. Errors: ErrState if it is a
// loop.
func ContractEdge(g Graph, k int64) (Graph, int64) {
	if code := checkEdge(g, k); code != ErrNone {
		return Graph{}, code
	}
	contracted := edge(g.Edges[k])
	if contracted.isLoop() {
		return Graph{}, ErrState
	}
	edges := edgesWithout(g, k)
	for i, e := range edges {
		edges[i] = edge{vertexBehind(contracted, e[0]), vertexBehind(contracted, e[1])}
	}
	return graphWith(g.Size-1, edges), ErrNone
}

// vertexBehind returns what becomes of a vertex v when an edge is contracted.
func vertexBehind(contracted edge, v int64) int64 {
	kept := min(contracted[0], contracted[1])
	gone := max(contracted[0], contracted[1])
	switch {
	case v == gone:
		return kept
	case v > gone:
		return v - 1
	}
	return v
}

// SubdivideEdge returns g with the edge k subdivided, and ErrNone. Errors: ErrLimit if g has
// MaxVertices vertices, or MaxEdges edges.
func SubdivideEdge(g Graph, k int64) (Graph, int64) {
	if code := checkEdge(g, k); code != ErrNone {
		return Graph{}, code
	}
	if g.Size == MaxVertices || len(g.Edges) == MaxEdges {
		return Graph{}, ErrLimit
	}
	edges := edgesOf(g)
	divided := edges[k]
	edges[k] = edge{divided[0], g.Size}
	edges = append(edges, edge{g.Size, divided[1]})
	return graphWith(g.Size+1, edges), ErrNone
}

// named is a graph with a name, by its text.
type named struct {
	name string
	text string
}

// namedTexts returns the graphs with names, in the order of the document.
func namedTexts() []named {
	return []named{
		{"point", "1:"},
		{"edge", "2:0-1"},
		{"loop", "1:0-0"},
		{"bouquet", "1:0-0,0-0"},
		{"theta", "2:0-1,0-1,0-1"},
		{"dumbbell", "2:0-0,0-1,1-1"},
		{"triangle", "3:0-1,1-2,2-0"},
		{"square", "4:0-1,1-2,2-3,3-0"},
		{"pentagon", "5:0-1,1-2,2-3,3-4,4-0"},
		{"star", "4:0-1,0-2,0-3"},
		{"diamond", "4:0-1,1-2,2-3,3-0,0-2"},
		{"tetrahedron", "4:0-1,0-2,0-3,1-2,1-3,2-3"},
		{"prism", "6:0-1,1-2,2-0,3-4,4-5,5-3,0-3,1-4,2-5"},
		{"houses", "6:0-3,0-4,0-5,1-3,1-4,1-5,2-3,2-4,2-5"},
	}
}

// NamedGraph returns the graph with a name, and ErrNone. (ErrInvalid and ErrRange are not
// returned.) Errors: ErrNotFound if there is none.
func NamedGraph(name string) (Graph, int64) {
	for _, entry := range namedTexts() {
		if entry.name == name {
			return ParseGraph(entry.text)
		}
	}
	return Graph{}, ErrNotFound
}

// GraphNames returns all names, in the order in which they are told.
func GraphNames() []string {
	var names []string
	for _, entry := range namedTexts() {
		names = append(names, entry.name)
	}
	return names
}

// GraphText returns the text of g, and ErrNone.
func GraphText(g Graph) (string, int64) {
	if !IsGraph(g) {
		return "", ErrInvalid
	}
	texts := make([]string, len(g.Edges))
	for k, e := range edgesOf(g) {
		texts[k] = decimal(e[0]) + "-" + decimal(e[1])
	}
	return decimal(g.Size) + ":" + strings.Join(texts, ","), ErrNone
}

// decimal returns a number in decimal.
func decimal(n int64) string { return strconv.FormatInt(n, 10) }

// ParseGraph returns the graph with a text, and ErrNone. Errors: ErrSyntax if there is none. (No
// other errors are returned.)
func ParseGraph(text string) (Graph, int64) {
	g, ok := readGraph(text)
	if !ok {
		return Graph{}, ErrSyntax
	}
	// What was read may be no graph, or may be written in another way, as with leading zeros.
	back, code := GraphText(g)
	if code != ErrNone || back != text {
		return Graph{}, ErrSyntax
	}
	return g, ErrNone
}

// readGraph returns the size and the edges in a text, whether they make a graph or not, and
// reports whether there are such.
func readGraph(text string) (Graph, bool) {
	before, behind, _ := strings.Cut(text, ":")
	size, err := strconv.ParseInt(before, 10, 64)
	if err != nil {
		return Graph{}, false
	}
	if behind == "" {
		return graphWith(size, nil), true
	}
	// A long text is refused before it is taken to pieces.
	if strings.Count(behind, ",") >= MaxEdges {
		return Graph{}, false
	}
	var edges []edge
	for _, part := range strings.Split(behind, ",") {
		e, ok := readEdge(part)
		if !ok {
			return Graph{}, false
		}
		edges = append(edges, e)
	}
	return graphWith(size, edges), true
}

// readEdge returns the edge in a text, and reports whether there is one.
func readEdge(text string) (edge, bool) {
	before, behind, _ := strings.Cut(text, "-")
	a, err := strconv.ParseInt(before, 10, 64)
	if err != nil {
		return edge{}, false
	}
	b, err := strconv.ParseInt(behind, 10, 64)
	if err != nil {
		return edge{}, false
	}
	return edge{a, b}, true
}

// ring is the type of the numbers of a polynomial.
type ring[N any] interface {
	plus(N) N
	minus(N) N
	times(N) N
}

// polynomial has its number at u^k at the index k; there may be zeros at its end.
type polynomial[N ring[N]] []N

// at returns the number at u^k.
func (f polynomial[N]) at(k int) N {
	if k < len(f) {
		return f[k]
	}
	var zero N
	return zero
}

// plus returns f and g together.
func (f polynomial[N]) plus(g polynomial[N]) polynomial[N] {
	sum := make(polynomial[N], max(len(f), len(g)))
	for k := range sum {
		sum[k] = f.at(k).plus(g.at(k))
	}
	return sum
}

// scaled returns f times a number.
func (f polynomial[N]) scaled(factor N) polynomial[N] {
	product := make(polynomial[N], len(f))
	for k := range f {
		product[k] = f[k].times(factor)
	}
	return product
}

// times returns the product of f and g.
func (f polynomial[N]) times(g polynomial[N]) polynomial[N] {
	if len(f) == 0 || len(g) == 0 {
		return nil
	}
	product := make(polynomial[N], len(f)+len(g)-1)
	for i := range f {
		for j := range g {
			product[i+j] = product[i+j].plus(f[i].times(g[j]))
		}
	}
	return product
}

// dividedBy returns the quotient of f and g, which is not longer, and whose number at u^0 is its
// own inverse. There may be a rest.
func (f polynomial[N]) dividedBy(g polynomial[N]) polynomial[N] {
	quotient := make(polynomial[N], len(f)-len(g)+1)
	for k := range quotient {
		var sum N
		for i := 1; i <= k && i < len(g); i++ {
			sum = sum.plus(g[i].times(quotient[k-i]))
		}
		quotient[k] = f[k].minus(sum).times(g[0])
	}
	return quotient
}

// value returns the value of f at x.
func (f polynomial[N]) value(x N) N {
	var value N
	for k := len(f) - 1; k >= 0; k-- {
		value = value.times(x).plus(f[k])
	}
	return value
}

// whole is a whole number that is bounded by MaxWhole. One that exceeds it is broken instead, and
// so is all that is made of it; thus limits can be checked once, at the end.
type whole struct {
	n      int64
	broken bool
}

// wholeOf returns a number that arose from others, and whether one of them was broken.
func wholeOf(n int64, broken bool) whole {
	if broken || !isWithin(n, MaxWhole) {
		return whole{broken: true}
	}
	return whole{n: n}
}

func (a whole) plus(b whole) whole { return wholeOf(a.n+b.n, a.broken || b.broken) }

func (a whole) minus(b whole) whole { return wholeOf(a.n-b.n, a.broken || b.broken) }

func (a whole) times(b whole) whole {
	// The product itself may exceed int64.
	if a.n != 0 && absolute(b.n) > MaxWhole/absolute(a.n) {
		return whole{broken: true}
	}
	return wholeOf(a.n*b.n, a.broken || b.broken)
}

// absolute returns the absolute value of n, which is not the least int64.
func absolute(n int64) int64 { return max(n, -n) }

// wholesOf returns a polynomial with limits.
func wholesOf(f []int64) polynomial[whole] {
	wholes := make(polynomial[whole], len(f))
	for k, n := range f {
		wholes[k] = whole{n: n}
	}
	return wholes
}

// numbersOf returns the numbers of a polynomial, and ErrNone, or ErrLimit if it exceeds a limit.
func numbersOf(f polynomial[whole]) ([]int64, int64) {
	numbers := make([]int64, len(f))
	for k, a := range f {
		if a.broken {
			return nil, ErrLimit
		}
		numbers[k] = a.n
	}
	numbers = withoutZeros(numbers)
	if len(numbers) > MaxPoly {
		return nil, ErrLimit
	}
	return numbers, ErrNone
}

// withoutZeros returns a list without the zeros at its end, in the same memory.
func withoutZeros(list []int64) []int64 {
	for len(list) > 0 && list[len(list)-1] == 0 {
		list = list[:len(list)-1]
	}
	return list
}

// IsWhole reports whether f is a polynomial.
func IsWhole(f []int64) bool {
	if len(f) > MaxPoly {
		return false
	}
	for _, n := range f {
		if !isWithin(n, MaxWhole) {
			return false
		}
	}
	return len(f) == 0 || f[len(f)-1] != 0
}

// AddWhole returns f and k times g together, k of an absolute value of at most 1000, and ErrNone.
// Errors: ErrLimit as told.
func AddWhole(f []int64, g []int64, k int64) ([]int64, int64) {
	if !IsWhole(f) || !IsWhole(g) {
		return nil, ErrInvalid
	}
	if !isWithin(k, maxFactor) {
		return nil, ErrRange
	}
	return numbersOf(wholesOf(f).plus(wholesOf(g).scaled(whole{n: k})))
}

// MultiplyWhole returns the product, and ErrNone. Errors: ErrLimit as told.
func MultiplyWhole(f []int64, g []int64) ([]int64, int64) {
	if !IsWhole(f) || !IsWhole(g) {
		return nil, ErrInvalid
	}
	return numbersOf(wholesOf(f).times(wholesOf(g)))
}

// DivideWhole returns the polynomial q for which q times g is f, and ErrNone. Errors: ErrState if
// g has not 1 or -1 at u^0; ErrNotFound if the degree of f, other than 0, is less than that of g,
// or the product with g of the q that is found is not f: q has at k, from 0 to the degree of f
// less that of g, the number of f there, less the sum of the products of the numbers of g at i and
// of q at k - i, i from 1 on, ascending, times that of g at u^0; ErrLimit as told, for q, and for
// the product with g.
func DivideWhole(f []int64, g []int64) ([]int64, int64) {
	if !IsWhole(f) || !IsWhole(g) {
		return nil, ErrInvalid
	}
	if len(g) == 0 || absolute(g[0]) != 1 {
		return nil, ErrState
	}
	if len(f) == 0 {
		return nil, ErrNone
	}
	if len(f) < len(g) {
		return nil, ErrNotFound
	}
	quotient := wholesOf(f).dividedBy(wholesOf(g))
	// A broken number of the quotient breaks the product as well.
	product, code := numbersOf(quotient.times(wholesOf(g)))
	if code != ErrNone {
		return nil, code
	}
	if !slices.Equal(product, f) {
		return nil, ErrNotFound
	}
	return numbersOf(quotient)
}

// ValueOfWhole returns the value of f at x, of an absolute value of at most 1000, found from the
// last number on (each time, what there is times x, and the next number), and ErrNone. Errors:
// ErrLimit as told.
func ValueOfWhole(f []int64, x int64) (int64, int64) {
	if !IsWhole(f) {
		return 0, ErrInvalid
	}
	if !isWithin(x, maxPlace) {
		return 0, ErrRange
	}
	value := wholesOf(f).value(whole{n: x})
	if value.broken {
		return 0, ErrLimit
	}
	return value.n, ErrNone
}

// DerivativeOfWhole returns the derivative, and ErrNone. Errors: ErrLimit as told.
func DerivativeOfWhole(f []int64) ([]int64, int64) {
	if !IsWhole(f) {
		return nil, ErrInvalid
	}
	var derivative polynomial[whole]
	for k, number := range wholesOf(f) {
		if k > 0 {
			derivative = append(derivative, number.times(whole{n: int64(k)}))
		}
	}
	return numbersOf(derivative)
}

// DeterminantWhole returns the determinant polynomial of rows, and ErrNone. (ErrInvalid and
// ErrLimit are not returned.)
func DeterminantWhole(rows [][]int64) ([]int64, int64) {
	if len(rows) > MaxVertices {
		return nil, ErrRange
	}
	for _, row := range rows {
		if len(row) != len(rows) {
			return nil, ErrRange
		}
		for _, n := range row {
			if !isWithin(n, maxEntry) {
				return nil, ErrRange
			}
		}
	}
	return determinantPolynomial(rows), ErrNone
}

// determinantPolynomial returns the determinant polynomial of rows by the steps of Faddeev and
// LeVerrier, which need no fractions: the traces are multiples of k. The numbers on the way are
// sums of minors, and fit int64.
func determinantPolynomial(rows [][]int64) []int64 {
	numbers := []int64{1}
	step := zeroRows(len(rows))
	for k := range int64(len(rows)) {
		for i := range step {
			step[i][i] += numbers[k]
		}
		step = productOfRows(rows, step)
		numbers = append(numbers, -traceOf(step)/(k+1))
	}
	return withoutZeros(numbers)
}

// zeroRows returns n rows of n zeros, in memory of their own.
func zeroRows(n int) [][]int64 {
	rows := make([][]int64, n)
	for i := range rows {
		rows[i] = make([]int64, n)
	}
	return rows
}

// productOfRows returns the product of two square matrices.
func productOfRows(a [][]int64, b [][]int64) [][]int64 {
	product := zeroRows(len(a))
	for i := range a {
		for j := range a {
			for k := range a {
				product[i][j] += a[i][k] * b[k][j]
			}
		}
	}
	return product
}

// traceOf returns the sum of the numbers on the diagonal.
func traceOf(rows [][]int64) int64 {
	var trace int64
	for i := range rows {
		trace += rows[i][i]
	}
	return trace
}
