package tests

import (
	"fmt"
	"math"
	"math/big"
	"slices"
	"strings"
	"testing"

	"loop.example/g01298/impl"
)

// rolledRegular returns a graph that is regular of a degree: the ends of all edges are joined two
// by two. The size times the degree is even, and at most twice MaxEdges.
func rolledRegular(d *dice, size int64, degree int64) impl.Graph {
	var ends []int64
	for v := range size {
		ends = append(ends, filled(int(degree), v)...)
	}
	g := impl.Graph{Size: size}
	for len(ends) > 0 {
		last := len(ends) - 1
		other := d.below(int64(last))
		g.Edges = append(g.Edges, []int64{ends[last], ends[other]})
		ends[other] = ends[last-1]
		ends = ends[:last-1]
	}
	return g
}

// regularCase is a graph that is regular of a degree.
type regularCase struct {
	graph  impl.Graph
	degree int64
}

// regularCases returns graphs of all sizes that are regular, of every degree that they can have.
func regularCases() []regularCase {
	var cases []regularCase
	d := dice(73)
	for size := int64(1); size <= impl.MaxVertices; size++ {
		for degree := int64(0); size*degree <= 2*impl.MaxEdges; degree++ {
			for range 12 {
				if size*degree%2 == 0 {
					cases = append(cases, regularCase{rolledRegular(&d, size, degree), degree})
				}
			}
		}
	}
	return cases
}

// spectraGraphs returns all kinds of graphs, and some of each regular kind.
func spectraGraphs(t *testing.T) []impl.Graph {
	graphs := treeGraphs(t)
	for k, c := range regularCases() {
		if k%6 == 0 {
			graphs = append(graphs, c.graph)
		}
	}
	return graphs
}

// handAdjacency returns the adjacency rows.
func handAdjacency(g impl.Graph) [][]int64 {
	rows := squareRows(int(g.Size))
	for _, e := range directedEdges(g) {
		rows[e[0]][e[1]]++
	}
	return rows
}

// unitTimesLess returns x times the unit matrix less rows.
func unitTimesLess(x int64, rows [][]int64) [][]int64 {
	less := squareRows(len(rows))
	for i, row := range rows {
		less[i] = times(-1, row)
		less[i][i] += x
	}
	return less
}

// spectrumSigns tells how many eigenvalues are greater than a number, equal to it, and less.
type spectrumSigns struct {
	above, at, below int64
}

// spectrumSignsOf returns the signs of symmetric rows at x. Rows and columns of x times the unit
// matrix less them are added together alike, until it is diagonal, which keeps the numbers of the
// signs (the law of Sylvester).
func spectrumSignsOf(rows [][]int64, x int64) spectrumSigns {
	var signs spectrumSigns
	m := rationals(unitTimesLess(x, rows))
	for len(m) > 0 {
		p := slices.IndexFunc(indicesOf(m), func(i int) bool { return m[i][i].Sign() != 0 })
		switch {
		case p < 0 && !fillDiagonal(m):
			signs.at += int64(len(m))
			return signs
		case p < 0:
			continue
		case m[p][p].Sign() > 0:
			signs.below++
		default:
			signs.above++
		}
		m = withoutPivot(m, p)
	}
	return signs
}

// rationals returns rows as fractions.
func rationals(rows [][]int64) [][]*big.Rat {
	m := make([][]*big.Rat, len(rows))
	for i, row := range rows {
		for _, n := range row {
			m[i] = append(m[i], new(big.Rat).SetInt64(n))
		}
	}
	return m
}

// indicesOf returns the numbers of rows.
func indicesOf(m [][]*big.Rat) []int {
	var list []int
	for i := range m {
		list = append(list, i)
	}
	return list
}

// fillDiagonal adds a row and a column to others so that the diagonal, which is 0, has another
// number, and reports whether there was one elsewhere.
func fillDiagonal(m [][]*big.Rat) bool {
	for i := range m {
		for j := range m {
			if m[i][j].Sign() == 0 {
				continue
			}
			for k := range m {
				m[i][k] = new(big.Rat).Add(m[i][k], m[j][k])
			}
			for k := range m {
				m[k][i] = new(big.Rat).Add(m[k][i], m[k][j])
			}
			return true
		}
	}
	return false
}

// withoutPivot returns what is left of rows when the row and the column p are eliminated.
func withoutPivot(m [][]*big.Rat, p int) [][]*big.Rat {
	var left [][]*big.Rat
	for i := range m {
		if i == p {
			continue
		}
		factor := new(big.Rat).Quo(m[i][p], m[p][p])
		var row []*big.Rat
		for j := range m {
			if j != p {
				row = append(row, new(big.Rat).Sub(m[i][j], new(big.Rat).Mul(factor, m[p][j])))
			}
		}
		left = append(left, row)
	}
	return left
}

// checkCharacteristic checks that numbers are those of the characteristic polynomial of rows.
func checkCharacteristic(t *testing.T, what string, list []int64, code int64, rows [][]int64) {
	t.Helper()
	sameCode(t, what, code, impl.ErrNone)
	if len(list) != len(rows)+1 || list[len(rows)] != 1 {
		t.Errorf("%s: %v has not %d numbers, the last one 1", what, list, len(rows)+1)
	}
	sameDeterminant(t, what, list, len(rows), func(x int64) [][]int64 { return unitTimesLess(x, rows) })
}

func TestCharacteristicPolynomialsAreDeterminants(t *testing.T) {
	for _, g := range spectraGraphs(t) {
		what := fmt.Sprint(" of ", g)
		rows := handAdjacency(g)
		list, code := impl.CharacteristicOf(g)
		checkCharacteristic(t, "CharacteristicOf"+what, list, code, rows)
		list, code = impl.LaplacianPolynomial(g)
		checkCharacteristic(t, "LaplacianPolynomial"+what, list, code, handLaplacian(g))
		list, code = impl.SquarePolynomial(g)
		checkCharacteristic(t, "SquarePolynomial"+what, list, code, timesRows(rows, rows))
	}
}

func TestSquarePolynomialsArePolynomialsTimesThoseOfNegatives(t *testing.T) {
	for _, g := range spectraGraphs(t) {
		list, code := impl.CharacteristicOf(g)
		sameCode(t, "CharacteristicOf", code, impl.ErrNone)
		square, code := impl.SquarePolynomial(g)
		sameCode(t, "SquarePolynomial", code, impl.ErrNone)
		negative := slices.Clone(list)
		for k := len(list) - 2; k >= 0; k -= 2 {
			negative[k] = -negative[k]
		}
		// The roots x and -x of both make the root x x.
		var spread []int64
		for k, n := range square {
			spread = append(spread, n)
			if k+1 < len(square) {
				spread = append(spread, 0)
			}
		}
		same(t, fmt.Sprint("squares of ", g), productOf(t, list, negative), spread)
	}
}

// spectrumCase is a graph with eigenvalues that are whole numbers.
type spectrumCase struct {
	text   string
	values []int64
}

// spectrumCases returns graphs with known eigenvalues, descending.
func spectrumCases() []spectrumCase {
	loops := strings.TrimSuffix(strings.Repeat("0-0,", 10), ",")
	parallel := strings.TrimSuffix(strings.Repeat("0-1,", 10), ",")
	return []spectrumCase{
		{"1:", []int64{0}},
		{"8:", []int64{0, 0, 0, 0, 0, 0, 0, 0}},
		{"1:0-0", []int64{2}},
		{"1:0-0,0-0", []int64{4}},
		{"1:" + loops, []int64{20}},
		{"8:" + loops, []int64{20, 0, 0, 0, 0, 0, 0, 0}},
		{"2:" + loops, []int64{20, 0}},
		{"2:0-1", []int64{1, -1}},
		{"2:0-1,0-1,0-1", []int64{3, -3}},
		{"2:" + parallel, []int64{10, -10}},
		{"8:" + parallel, []int64{10, 0, 0, 0, 0, 0, 0, -10}},
		{"2:0-0,0-1,1-1", []int64{3, 1}},
		{"2:0-0,0-0,0-0,0-0,1-1,1-1,1-1,1-1,0-1,0-1", []int64{10, 6}},
		{"2:0-0,0-0,0-0,0-0,0-0,1-1,1-1,1-1,1-1,1-1", []int64{10, 10}},
		{"2:0-0,0-0,0-0,0-0,1-1,1-1,1-1,1-1,0-1", []int64{9, 7}},
		{"3:0-1,1-2,2-0", []int64{2, -1, -1}},
		{"3:0-1,1-2,2-0,0-1,1-2,2-0,0-1,1-2,2-0", []int64{6, -3, -3}},
		{"4:0-1,1-2,2-3,3-0", []int64{2, 0, 0, -2}},
		{"4:0-1,2-3", []int64{1, 1, -1, -1}},
		{"4:0-1,0-2,0-3,1-2,1-3,2-3", []int64{3, -1, -1, -1}},
		{"5:0-1,0-2,0-3,0-4", []int64{2, 0, 0, 0, -2}},
		{"5:0-1,0-2,0-3,0-4,1-2,1-3,1-4,2-3,2-4,3-4", []int64{4, -1, -1, -1, -1}},
		{"6:0-1,1-2,2-3,3-4,4-5,5-0", []int64{2, 1, 1, -1, -1, -2}},
		{"6:0-1,1-2,2-0,3-4,4-5,5-3", []int64{2, 2, -1, -1, -1, -1}},
		{"6:0-1,1-2,2-0,3-4,4-5,5-3,0-3,1-4,2-5", []int64{3, 1, 0, 0, -2, -2}},
		{"6:0-3,0-4,0-5,1-3,1-4,1-5,2-3,2-4,2-5", []int64{3, 0, 0, 0, 0, -3}},
		{"7:6-5,5-4,4-6,3-3", []int64{2, 2, 0, 0, 0, -1, -1}},
		{"8:0-1,2-3,4-5,6-7", []int64{1, 1, 1, 1, -1, -1, -1, -1}},
		{"8:0-1,0-1,2-3,2-3,4-4,5-5,6-6,7-7", []int64{2, 2, 2, 2, 2, 2, -2, -2}},
	}
}

// productOfRoots returns the polynomial with some roots, the last number being 1.
func productOfRoots(t *testing.T, roots []int64) []int64 {
	t.Helper()
	product := []int64{1}
	for _, root := range roots {
		product = productOf(t, product, []int64{-root, 1})
	}
	return product
}

func TestKnownEigenvalues(t *testing.T) {
	for _, c := range spectrumCases() {
		g := parsed(t, c.text)
		what := " of " + c.text
		list, code := impl.CharacteristicOf(g)
		checkNumbers(t, "CharacteristicOf"+what, list, code, productOfRoots(t, c.values))
		var squares []int64
		for _, value := range c.values {
			squares = append(squares, value*value)
		}
		list, code = impl.SquarePolynomial(g)
		checkNumbers(t, "SquarePolynomial"+what, list, code, productOfRoots(t, squares))
		for x := int64(-30); x <= 30; x++ {
			checkSigns(t, g, x, signsOfList(c.values, x))
		}
		n, code := impl.GreatestBelow(g)
		checkNumber(t, "GreatestBelow"+what, n, code, c.values[0])
		signs := signsOfList(c.values, 0)
		list, code = impl.SignsOfSpectrum(g)
		checkNumbers(t, "SignsOfSpectrum"+what, list, code, []int64{signs.above, signs.at, signs.below})
		negatives := times(-1, c.values)
		slices.Reverse(negatives)
		yes, code := impl.IsSymmetricSpectrum(g)
		checkYes(t, "IsSymmetricSpectrum"+what, yes, code, slices.Equal(negatives, c.values))
		for k := range int64(7) {
			n, code = impl.SpectralSum(g, k)
			checkNumber(t, fmt.Sprint("SpectralSum", what, k), n, code, sumOfPowers(c.values, int(k)))
		}
	}
}

// signsOfList returns how many numbers of a list are greater than x, equal to it, and less.
func signsOfList(list []int64, x int64) spectrumSigns {
	var signs spectrumSigns
	for _, n := range list {
		switch {
		case n > x:
			signs.above++
		case n == x:
			signs.at++
		default:
			signs.below++
		}
	}
	return signs
}

// sumOfPowers returns the sum of the powers of numbers.
func sumOfPowers(list []int64, exponent int) int64 {
	sum := int64(0)
	for _, n := range list {
		power := int64(1)
		for range exponent {
			power *= n
		}
		sum += power
	}
	return sum
}

// checkSigns checks both numbers of eigenvalues at x.
func checkSigns(t *testing.T, g impl.Graph, x int64, want spectrumSigns) {
	t.Helper()
	n, code := impl.EigenAbove(g, x)
	checkNumber(t, fmt.Sprint("EigenAbove of ", g, x), n, code, want.above)
	n, code = impl.EigenAt(g, x)
	checkNumber(t, fmt.Sprint("EigenAt of ", g, x), n, code, want.at)
}

// checkYes checks an answer with ErrNone.
func checkYes(t *testing.T, what string, got bool, code int64, want bool) {
	t.Helper()
	if got != want || code != impl.ErrNone {
		t.Errorf("%s: got %v and code %d, want %v", what, got, code, want)
	}
}

func TestEigenvaluesAreCountedBySigns(t *testing.T) {
	for _, g := range spectraGraphs(t) {
		rows := handAdjacency(g)
		degrees, _ := impl.DegreesOf(g)
		most := slices.Max(degrees)
		greatest := int64(-1)
		for x := int64(-30); x <= 30; x++ {
			var want spectrumSigns
			switch {
			case x > most:
				want.below = g.Size
			case x < -most:
				want.above = g.Size
			default:
				want = spectrumSignsOf(rows, x)
			}
			same(t, fmt.Sprint("eigenvalues of ", g), want.above+want.at+want.below, g.Size)
			checkSigns(t, g, x, want)
			if want.above+want.at > 0 {
				greatest = x
			}
			if x == 0 {
				list, code := impl.SignsOfSpectrum(g)
				checkNumbers(t, fmt.Sprint("SignsOfSpectrum of ", g), list, code, []int64{want.above, want.at, want.below})
			}
		}
		n, code := impl.GreatestBelow(g)
		checkNumber(t, fmt.Sprint("GreatestBelow of ", g), n, code, greatest)
	}
}

func TestSpectraByText(t *testing.T) {
	for _, c := range []struct {
		text      string
		list      []int64
		laplacian []int64
		square    []int64
		greatest  int64
		signs     []int64
		symmetric bool
	}{
		{"1:", []int64{0, 1}, []int64{0, 1}, []int64{0, 1}, 0, []int64{0, 1, 0}, true},
		{"2:", []int64{0, 0, 1}, []int64{0, 0, 1}, []int64{0, 0, 1}, 0, []int64{0, 2, 0}, true},
		{"2:0-1", []int64{-1, 0, 1}, []int64{0, -2, 1}, []int64{1, -2, 1}, 1, []int64{1, 0, 1}, true},
		{"1:0-0", []int64{-2, 1}, []int64{0, 1}, []int64{-4, 1}, 2, []int64{1, 0, 0}, false},
		{"2:0-0,0-1,1-1", []int64{3, -4, 1}, []int64{0, -2, 1}, []int64{9, -10, 1}, 3, []int64{2, 0, 0}, false},
		{"3:0-1,1-2,2-0", []int64{-2, -3, 0, 1}, []int64{0, 9, -6, 1}, []int64{-4, 9, -6, 1}, 2, []int64{1, 0, 2}, false},
		{"3:0-1,1-2", []int64{0, -2, 0, 1}, []int64{0, 3, -4, 1}, []int64{0, 4, -4, 1}, 1, []int64{1, 1, 1}, true},
		{"3:2-1,0-0", []int64{2, -1, -2, 1}, []int64{0, 0, -2, 1}, []int64{-4, 9, -6, 1}, 2, []int64{2, 0, 1}, false},
		{"4:0-1,0-2,0-3", []int64{0, 0, -3, 0, 1}, []int64{0, -4, 9, -6, 1}, []int64{0, 0, 9, -6, 1}, 1, []int64{1, 2, 1}, true},
		{"4:0-1,1-2,2-3,3-0,0-2", []int64{0, -4, -5, 0, 1}, []int64{0, -32, 32, -10, 1}, []int64{0, -16, 25, -10, 1}, 2, []int64{1, 1, 2}, false},
		{"5:0-1,1-2,2-3,3-4,4-0", []int64{-2, 5, 0, -5, 0, 1}, []int64{0, 25, -50, 35, -10, 1}, []int64{-4, 25, -50, 35, -10, 1}, 2, []int64{3, 0, 2}, false},
	} {
		g := parsed(t, c.text)
		list, code := impl.CharacteristicOf(g)
		checkNumbers(t, "CharacteristicOf of "+c.text, list, code, c.list)
		list, code = impl.LaplacianPolynomial(g)
		checkNumbers(t, "LaplacianPolynomial of "+c.text, list, code, c.laplacian)
		list, code = impl.SquarePolynomial(g)
		checkNumbers(t, "SquarePolynomial of "+c.text, list, code, c.square)
		n, code := impl.GreatestBelow(g)
		checkNumber(t, "GreatestBelow of "+c.text, n, code, c.greatest)
		list, code = impl.SignsOfSpectrum(g)
		checkNumbers(t, "SignsOfSpectrum of "+c.text, list, code, c.signs)
		yes, code := impl.IsSymmetricSpectrum(g)
		checkYes(t, "IsSymmetricSpectrum of "+c.text, yes, code, c.symmetric)
	}
}

func TestBipartiteGraphsHaveSymmetricSpectra(t *testing.T) {
	graphs := spectraGraphs(t)
	d := dice(74)
	for range 200 {
		graphs = append(graphs, rolledBipartite(&d))
	}
	for _, g := range graphs {
		what := fmt.Sprint("spectrum of ", g)
		bipartite, code := impl.IsBipartite(g)
		sameCode(t, what, code, impl.ErrNone)
		// No other spectrum is symmetric: only in bipartite parts, the negative of the greatest
		// eigenvalue is one, too.
		yes, code := impl.IsSymmetricSpectrum(g)
		checkYes(t, what, yes, code, bipartite)
		for x := int64(0); bipartite && x <= 30; x++ {
			at, code := impl.EigenAt(g, x)
			sameCode(t, what, code, impl.ErrNone)
			above, code := impl.EigenAbove(g, x)
			sameCode(t, what, code, impl.ErrNone)
			checkSigns(t, g, -x, spectrumSigns{above: g.Size - above - at, at: at})
		}
	}
}

// rolledBipartite returns a bipartite graph.
func rolledBipartite(d *dice) impl.Graph {
	size := d.between(2, impl.MaxVertices)
	first := d.between(1, size-1)
	g := impl.Graph{Size: size}
	for range d.below(impl.MaxEdges + 1) {
		g.Edges = append(g.Edges, []int64{d.below(first), d.between(first, size-1)})
	}
	return g
}

// partGraph returns the part of a graph with some vertices.
func partGraph(g impl.Graph, part []int64) impl.Graph {
	h := impl.Graph{Size: int64(len(part))}
	for _, e := range g.Edges {
		if slices.Contains(part, e[0]) {
			h.Edges = append(h.Edges, []int64{int64(slices.Index(part, e[0])), int64(slices.Index(part, e[1]))})
		}
	}
	return h
}

func TestRegularGraphsHaveTheirDegreeAsTheGreatestEigenvalue(t *testing.T) {
	for _, c := range regularCases() {
		what := fmt.Sprint("regular graph ", c.graph)
		n, code := impl.RegularDegree(c.graph)
		checkNumber(t, what, n, code, c.degree)
		n, code = impl.GreatestBelow(c.graph)
		checkNumber(t, what, n, code, c.degree)
		parts, _ := impl.PartsOf(c.graph)
		checkSigns(t, c.graph, c.degree, spectrumSigns{at: int64(len(parts))})
		bipartite := int64(0)
		for _, part := range parts {
			if yes, _ := impl.IsBipartite(partGraph(c.graph, part)); yes {
				bipartite++
			}
		}
		checkSigns(t, c.graph, -c.degree, spectrumSigns{above: c.graph.Size - bipartite, at: bipartite})
	}
}

func TestRegularDegrees(t *testing.T) {
	for _, g := range spectraGraphs(t) {
		what := fmt.Sprint("RegularDegree of ", g)
		degrees, _ := impl.DegreesOf(g)
		n, code := impl.RegularDegree(g)
		if slices.Max(degrees) == slices.Min(degrees) {
			checkNumber(t, what, n, code, degrees[0])
		} else {
			sameCode(t, what, code, impl.ErrNotFound)
			same(t, what, n, int64(0))
		}
	}
	for text, want := range map[string]int64{"1:": 0, "8:": 0, "1:0-0": 2, "2:0-1": 1, "2:0-0,1-1": 2, "4:0-1,2-3": 1,
		"3:0-0,1-2,2-1": 2, "8:0-1,2-3,4-5,6-7": 1, "1:0-0,0-0,0-0,0-0,0-0,0-0,0-0,0-0,0-0,0-0": 20,
		"5:0-1,0-2,0-3,0-4,1-2,1-3,1-4,2-3,2-4,3-4": 4} {
		n, code := impl.RegularDegree(parsed(t, text))
		checkNumber(t, "RegularDegree of "+text, n, code, want)
	}
	for _, text := range []string{"2:0-0", "2:1-1", "3:0-1", "3:1-2", "3:0-1,1-2", "2:0-0,0-1", "4:0-1,1-2,2-0", "8:0-1,2-3,4-5,6-6",
		"8:0-1,2-3,4-5,6-7,0-1", "8:0-1,2-3,4-5,6-7,6-7"} {
		n, code := impl.RegularDegree(parsed(t, text))
		sameCode(t, "RegularDegree of "+text, code, impl.ErrNotFound)
		same(t, "RegularDegree of "+text, n, int64(0))
	}
}

// handRamanujan reports whether a connected graph that is regular of a degree is a Ramanujan graph.
func handRamanujan(g impl.Graph, degree int64) bool {
	rows := handAdjacency(g)
	squares := timesRows(rows, rows)
	bound := 4 * (degree - 1)
	beyond := spectrumSignsOf(squares, bound).above
	if degree*degree > bound {
		beyond -= spectrumSignsOf(squares, degree*degree).at
	}
	return beyond == 0
}

func TestRamanujanGraphs(t *testing.T) {
	graphs := spectraGraphs(t)
	for _, c := range regularCases() {
		graphs = append(graphs, c.graph)
	}
	for _, g := range graphs {
		what := fmt.Sprint("IsRamanujan of ", g)
		degrees, _ := impl.DegreesOf(g)
		parts, _ := impl.PartsOf(g)
		yes, code := impl.IsRamanujan(g)
		if len(parts) == 1 && degrees[0] > 0 && slices.Max(degrees) == slices.Min(degrees) {
			checkYes(t, what, yes, code, handRamanujan(g, degrees[0]))
		} else {
			sameCode(t, what, code, impl.ErrState)
			same(t, what, yes, false)
		}
	}
}

func TestRamanujanGraphsWithTwoVertices(t *testing.T) {
	found := map[bool]int{}
	for degree := int64(1); degree <= 10; degree++ {
		for loops := int64(0); 2*loops < degree; loops++ {
			g := impl.Graph{Size: 2}
			for range loops {
				g.Edges = append(g.Edges, []int64{0, 0}, []int64{1, 1})
			}
			for range degree - 2*loops {
				g.Edges = append(g.Edges, []int64{0, 1})
			}
			// The other eigenvalue: what the loops have, less what is between the vertices.
			other := 2*loops - (degree - 2*loops)
			want := other == -degree || other*other <= 4*(degree-1)
			yes, code := impl.IsRamanujan(g)
			checkYes(t, fmt.Sprint("IsRamanujan of ", g), yes, code, want)
			checkSigns(t, g, other, signsOfList([]int64{degree, other}, other))
			found[yes]++
		}
	}
	same(t, "numbers of graphs", found, map[bool]int{true: 28, false: 2})
}

func TestRamanujanGraphsByText(t *testing.T) {
	for text, want := range map[string]bool{
		"2:0-1":                                 true,
		"1:0-0":                                 true,
		"2:0-1,0-1,0-1":                         true,
		"2:0-1,1-0":                             true,
		"2:0-0,0-1,1-1":                         true,
		"3:0-1,1-2,2-0":                         true,
		"4:0-1,1-2,2-3,3-0":                     true,
		"8:0-1,1-2,2-3,3-4,4-5,5-6,6-7,7-0":     true,
		"4:0-1,0-2,0-3,1-2,1-3,2-3":             true,
		"6:0-3,0-4,0-5,1-3,1-4,1-5,2-3,2-4,2-5": true,
		// The second eigenvalues are 3, 5, 6 and 7, and the squares 9 <= 16, 25 > 24, 36 = 36, 49 > 32.
		"2:0-0,0-0,0-1,1-1,1-1":                     true,
		"2:0-0,0-0,0-0,0-1,1-1,1-1,1-1":             false,
		"2:0-0,0-0,0-0,0-0,0-1,1-0,1-1,1-1,1-1,1-1": true,
		"2:0-0,0-0,0-0,0-0,0-1,1-1,1-1,1-1,1-1":     false,
		// The square of the second one, and that of the last one, is 17 > 16.
		"4:0-0,0-0,0-1,1-2,1-2,1-2,1-2,2-3,3-3,3-3": false,
		// Nothing but the degree and its negative.
		"2:0-1,0-1,0-1,0-1,0-1,0-1,0-1,0-1,0-1,0-1": true,
		"1:0-0,0-0,0-0,0-0,0-0,0-0,0-0,0-0,0-0,0-0": true,
	} {
		yes, code := impl.IsRamanujan(parsed(t, text))
		checkYes(t, "IsRamanujan of "+text, yes, code, want)
	}
	for _, text := range []string{"1:", "2:", "8:", "3:0-1,1-2", "2:0-0", "2:0-0,1-1", "4:0-1,2-3", "6:0-1,1-2,2-0,3-4,4-5,5-3",
		"3:0-1,0-1,0-1", "8:0-1,1-2,2-3,3-4,4-5,5-6,6-7", "8:0-1,2-3,4-5,6-7", "4:0-1,1-2,2-3,3-0,0-2"} {
		yes, code := impl.IsRamanujan(parsed(t, text))
		sameCode(t, "IsRamanujan of "+text, code, impl.ErrState)
		same(t, "IsRamanujan of "+text, yes, false)
	}
}

// exactTraces returns the traces of the powers 0 to most of rows.
func exactTraces(rows [][]int64, most int) []*big.Int {
	power := make([][]*big.Int, len(rows))
	for i := range rows {
		for range rows {
			power[i] = append(power[i], new(big.Int))
		}
		power[i][i] = big.NewInt(1)
	}
	var traces []*big.Int
	for range most + 1 {
		trace := new(big.Int)
		next := make([][]*big.Int, len(rows))
		for i := range rows {
			trace.Add(trace, power[i][i])
			for j := range rows {
				sum := new(big.Int)
				for k := range rows {
					sum.Add(sum, new(big.Int).Mul(power[i][k], big.NewInt(rows[k][j])))
				}
				next[i] = append(next[i], sum)
			}
		}
		traces = append(traces, trace)
		power = next
	}
	return traces
}

func TestSpectralSumsAreTraces(t *testing.T) {
	same(t, "limit", impl.MaxMoment, 16)
	met := 0
	for _, g := range spectraGraphs(t) {
		rows := handAdjacency(g)
		for k, trace := range exactTraces(rows, impl.MaxMoment) {
			what := fmt.Sprint("SpectralSum of ", g, " and ", k)
			n, code := impl.SpectralSum(g, int64(k))
			if trace.Cmp(big.NewInt(impl.MaxWhole)) > 0 {
				sameCode(t, what, code, impl.ErrLimit)
				same(t, what, n, int64(0))
				met++
			} else {
				checkNumber(t, what, n, code, trace.Int64())
			}
		}
		squares := int64(0)
		for _, row := range rows {
			for _, n := range row {
				squares += n * n
			}
		}
		n, code := impl.SpectralSum(g, 2)
		checkNumber(t, fmt.Sprint("squares of ", g), n, code, squares)
		n, code = impl.SpectralSum(g, 0)
		checkNumber(t, fmt.Sprint("vertices of ", g), n, code, g.Size)
	}
	if met == 0 {
		t.Errorf("no sum is greater than MaxWhole")
	}
}

func TestSpectralSumsCountClosedLists(t *testing.T) {
	for _, g := range spectraGraphs(t) {
		all, code := impl.AllWalks(g, impl.MaxTurn)
		sameCode(t, "AllWalks", code, impl.ErrNone)
		for k := 1; k <= impl.MaxTurn; k++ {
			n, code := impl.SpectralSum(g, int64(k))
			checkNumber(t, fmt.Sprint("SpectralSum of ", g, " and ", k), n, code, all[k-1])
		}
		for k := 1; k <= impl.MaxMoment; k++ {
			lists, ok := closedLists(g, k)
			if !ok {
				break
			}
			n, code := impl.SpectralSum(g, int64(k))
			checkNumber(t, fmt.Sprint("closed lists of ", g, " and ", k), n, code, int64(len(lists)))
		}
	}
}

func TestSpectralSumsAtTheirBound(t *testing.T) {
	five := "0-0,0-0,0-0,0-0,0-0"
	parallel := "0-1,0-1,0-1,0-1,0-1,0-1,0-1,0-1,0-1,0-1"
	for _, c := range []struct {
		text string
		k    int64
		want int64
		code int64
	}{
		{"1:" + five, 14, 100000000000000, impl.ErrNone},
		{"1:" + five, 15, impl.MaxWhole, impl.ErrNone},
		{"1:" + five, 16, 0, impl.ErrLimit},
		{"8:" + five, 15, impl.MaxWhole, impl.ErrNone},
		{"3:" + five + ",1-2", 15, impl.MaxWhole, impl.ErrNone},
		{"3:" + five + ",1-2,1-2,1-2,1-2,1-2", 15, impl.MaxWhole, impl.ErrNone},
		{"3:" + five + ",1-2", 14, 100000000000002, impl.ErrNone},
		{"2:" + five + ",1-1", 15, 0, impl.ErrLimit},
		{"2:" + five + ",0-1", 15, 0, impl.ErrLimit},
		{"2:" + five + ",1-1,1-1,1-1,1-1,1-1", 15, 0, impl.ErrLimit},
		{"2:" + five + ",1-1,1-1,1-1,1-1,1-1", 14, 200000000000000, impl.ErrNone},
		{"2:" + parallel, 14, 200000000000000, impl.ErrNone},
		{"2:" + parallel, 15, 0, impl.ErrNone},
		{"2:" + parallel, 16, 0, impl.ErrLimit},
		{"1:" + five + "," + five, 11, 204800000000000, impl.ErrNone},
		{"1:" + five + "," + five, 12, 0, impl.ErrLimit},
		{"1:" + five + "," + five, 15, 0, impl.ErrLimit},
		{"8:" + five + "," + five, 16, 0, impl.ErrLimit},
		{"1:" + five + ",0-0", 13, 106993205379072, impl.ErrNone},
		{"1:" + five + ",0-0", 14, 0, impl.ErrLimit},
		{"2:0-1", 16, 2, impl.ErrNone},
		{"2:0-1", 15, 0, impl.ErrNone},
		{"1:", 0, 1, impl.ErrNone},
		{"1:", 16, 0, impl.ErrNone},
		{"8:", 0, 8, impl.ErrNone},
		{"1:" + five + "," + five, 0, 1, impl.ErrNone},
		{"1:" + five + "," + five, 1, 20, impl.ErrNone},
		{"8:0-1,2-2,3-3", 1, 4, impl.ErrNone},
	} {
		n, code := impl.SpectralSum(parsed(t, c.text), c.k)
		sameCode(t, fmt.Sprint("SpectralSum of ", c.text, c.k), code, c.code)
		same(t, fmt.Sprint("SpectralSum of ", c.text, c.k), n, c.want)
	}
}

func TestCharacteristicPolynomialsAreToldByTraces(t *testing.T) {
	for _, g := range spectraGraphs(t) {
		list, code := impl.CharacteristicOf(g)
		sameCode(t, "CharacteristicOf", code, impl.ErrNone)
		laplacian, code := impl.LaplacianPolynomial(g)
		sameCode(t, "LaplacianPolynomial", code, impl.ErrNone)
		square, code := impl.SquarePolynomial(g)
		sameCode(t, "SquarePolynomial", code, impl.ErrNone)
		rows := handAdjacency(g)
		checkTraces(t, fmt.Sprint("characteristic polynomial of ", g), list, rows)
		checkTraces(t, fmt.Sprint("Laplacian polynomial of ", g), laplacian, handLaplacian(g))
		checkTraces(t, fmt.Sprint("square polynomial of ", g), square, timesRows(rows, rows))
	}
}

// checkTraces checks the identities of Newton: k times the number k places before the last one, and
// the numbers behind that one times the traces, together are 0.
func checkTraces(t *testing.T, what string, list []int64, rows [][]int64) {
	t.Helper()
	n := len(rows)
	traces := exactTraces(rows, n)
	for k := 1; k <= n; k++ {
		sum := new(big.Int).Mul(big.NewInt(int64(k)), big.NewInt(list[n-k]))
		for i := range k {
			sum.Add(sum, new(big.Int).Mul(big.NewInt(list[n-i]), traces[k-i]))
		}
		if sum.Sign() != 0 {
			t.Errorf("%s: %v is wrong at %d", what, list, n-k)
		}
	}
}

func TestLaplacianPolynomialsTellTrees(t *testing.T) {
	for _, g := range spectraGraphs(t) {
		what := fmt.Sprint("Laplacian polynomial of ", g)
		list, code := impl.LaplacianPolynomial(g)
		sameCode(t, what, code, impl.ErrNone)
		trees := number(t, impl.CountTrees, g)
		sign := int64(1)
		if g.Size%2 == 0 {
			sign = -1
		}
		same(t, what, list[0], int64(0))
		same(t, what, list[1], sign*g.Size*trees)
		same(t, what, trees, counted(handSubsets(g), handSubset.isTree))
		// Each part has the eigenvalue 0 once.
		parts, _ := impl.PartsOf(g)
		same(t, what, slices.IndexFunc(list, func(n int64) bool { return n != 0 }), len(parts))
	}
	for _, c := range graphsWithMostTrees() {
		g := parsed(t, c.text)
		list, code := impl.LaplacianPolynomial(g)
		sameCode(t, c.text, code, impl.ErrNone)
		same(t, c.text, max(list[1], -list[1]), g.Size*c.want)
	}
}

// handLine returns the edges of the line graph.
func handLine(g impl.Graph) [][]int64 {
	var edges [][]int64
	for i := range g.Edges {
		for k := range g.Edges {
			for v := range g.Size {
				if i < k && slices.Contains(g.Edges[i], v) && slices.Contains(g.Edges[k], v) {
					edges = append(edges, []int64{int64(i), int64(k)})
				}
			}
		}
	}
	return edges
}

// hasLoop reports whether a graph has a loop.
func hasLoop(g impl.Graph) bool {
	return slices.ContainsFunc(g.Edges, func(e []int64) bool { return e[0] == e[1] })
}

func TestLineGraphs(t *testing.T) {
	graphs := spectraGraphs(t)
	d := dice(75)
	for range 300 {
		graphs = append(graphs, rolledBipartite(&d))
	}
	found := map[int64]int{}
	for _, g := range graphs {
		what := fmt.Sprint("LineGraph of ", g)
		line, code := impl.LineGraph(g)
		edges := handLine(g)
		want := int64(impl.ErrNone)
		switch {
		case hasLoop(g) || len(g.Edges) == 0:
			want = impl.ErrState
		case len(g.Edges) > impl.MaxVertices || len(edges) > impl.MaxEdges:
			want = impl.ErrLimit
		}
		found[want]++
		sameCode(t, what, code, want)
		if want != impl.ErrNone {
			same(t, what, line, impl.Graph{})
			continue
		}
		same(t, what, line, impl.Graph{Size: int64(len(g.Edges)), Edges: edges})
		checkLineSpectrum(t, g, line)
	}
	for code, n := range found {
		if n < 20 {
			t.Errorf("only %d graphs with the code %d", n, code)
		}
	}
}

// checkLineSpectrum checks that the adjacency rows of a line graph have no eigenvalue less than -2,
// and, for a bipartite graph, that 2 more makes the eigenvalues of the Laplacian, but for zeros.
func checkLineSpectrum(t *testing.T, g impl.Graph, line impl.Graph) {
	t.Helper()
	what := fmt.Sprint("spectrum of the line graph of ", g)
	n, code := impl.EigenAbove(line, -3)
	checkNumber(t, what, n, code, line.Size)
	if bipartite, _ := impl.IsBipartite(g); !bipartite {
		return
	}
	list, code := impl.CharacteristicOf(line)
	sameCode(t, what, code, impl.ErrNone)
	laplacian, code := impl.LaplacianPolynomial(g)
	sameCode(t, what, code, impl.ErrNone)
	for x := int64(3); x < 20; x++ {
		left, right := valueRest(list, x-2), valueRest(laplacian, x)
		left = timesRest(left, powerRest(residue(x), uint64(max(0, g.Size-line.Size))))
		right = timesRest(right, powerRest(residue(x), uint64(max(0, line.Size-g.Size))))
		same(t, what, left, right)
	}
}

func TestLineGraphsByText(t *testing.T) {
	for text, want := range map[string]string{
		"2:0-1":                             "1:",
		"8:3-6":                             "1:",
		"4:0-1,2-3":                         "2:",
		"2:0-1,0-1":                         "2:0-1,0-1",
		"2:0-1,1-0":                         "2:0-1,0-1",
		"2:0-1,1-0,0-1":                     "3:0-1,0-1,0-2,0-2,1-2,1-2",
		"3:0-1,1-2":                         "2:0-1",
		"3:1-2,0-1,2-1":                     "3:0-1,0-2,0-2,1-2",
		"3:0-1,1-2,2-0":                     "3:0-1,0-2,1-2",
		"4:0-1,0-2,0-3":                     "3:0-1,0-2,1-2",
		"4:0-1,1-2,2-3,3-0":                 "4:0-1,0-3,1-2,2-3",
		"4:0-1,1-2,2-3,3-0,0-2":             "5:0-1,0-3,0-4,1-2,1-4,2-3,2-4,3-4",
		"8:0-1,2-3,4-5,6-7":                 "4:",
		"8:0-1,1-2,2-3,3-4,4-5,5-6,6-7,7-0": "8:0-1,0-7,1-2,2-3,3-4,4-5,5-6,6-7",
		// As many edges as a graph can have.
		"6:0-1,0-2,0-3,0-4,0-5":             "5:0-1,0-2,0-3,0-4,1-2,1-3,1-4,2-3,2-4,3-4",
		"8:0-1,1-2,2-3,3-4,4-5,5-6,6-7,1-3": "8:0-1,0-7,1-2,1-7,2-3,2-7,3-4,3-7,4-5,5-6",
		"4:0-1,0-1,1-0,1-2,2-3":             "5:0-1,0-1,0-2,0-2,0-3,1-2,1-2,1-3,2-3,3-4",
	} {
		line, code := impl.LineGraph(parsed(t, text))
		sameCode(t, "LineGraph of "+text, code, impl.ErrNone)
		same(t, "LineGraph of "+text, line, parsed(t, want))
	}
}

func TestLineGraphsThatAreRefused(t *testing.T) {
	for text, want := range map[string]int64{
		"1:": impl.ErrState, "2:": impl.ErrState, "8:": impl.ErrState, "1:0-0": impl.ErrState, "2:0-1,1-1": impl.ErrState,
		"2:0-0,0-1":                 impl.ErrState,
		"8:0-1,2-3,4-5,6-7,7-7":     impl.ErrState,
		"2:0-1,0-1,0-1,0-1":         impl.ErrLimit,
		"7:0-1,0-2,0-3,0-4,0-5,0-6": impl.ErrLimit,
		// A loop is found before too many edges are.
		"8:0-1,0-2,0-3,0-4,0-5,0-6,0-7,7-7":         impl.ErrState,
		"8:0-1,1-2,2-3,3-4,4-5,5-6,6-7,7-0,3-3":     impl.ErrState,
		"8:0-0,1-2,2-3,3-4,4-5,5-6,6-7,7-0,3-4,1-2": impl.ErrState,
		"1:0-0,0-0,0-0,0-0,0-0,0-0,0-0,0-0,0-0,0-0": impl.ErrState,
		"2:0-1,0-1,0-1,0-1,0-1,0-1,0-1,0-1,0-1,0-1": impl.ErrLimit,
		"8:0-1,1-2,2-3,3-4,4-5,5-6,6-7,7-0,0-4":     impl.ErrLimit,
		"8:0-1,1-2,2-3,3-4,4-5,5-6,6-7,7-0,0-4,1-5": impl.ErrLimit,
	} {
		line, code := impl.LineGraph(parsed(t, text))
		sameCode(t, "LineGraph of "+text, code, want)
		same(t, "LineGraph of "+text, line, impl.Graph{})
	}
}

// spectrumCalls returns calls of the functions of chapter 7 that need a graph alone.
func spectrumCalls(g impl.Graph) []weightCall {
	var calls []weightCall
	for name, f := range map[string]func(impl.Graph) ([]int64, int64){
		"CharacteristicOf": impl.CharacteristicOf, "LaplacianPolynomial": impl.LaplacianPolynomial,
		"SquarePolynomial": impl.SquarePolynomial, "SignsOfSpectrum": impl.SignsOfSpectrum,
	} {
		list, code := f(g)
		calls = append(calls, weightCall{name, list, code})
	}
	for name, f := range map[string]func(impl.Graph) (int64, int64){
		"GreatestBelow": impl.GreatestBelow, "RegularDegree": impl.RegularDegree,
	} {
		n, code := f(g)
		calls = append(calls, weightCall{name, n, code})
	}
	return calls
}

// momentCalls returns calls of the functions of chapter 7 with a number.
func momentCalls(g impl.Graph, n int64) []weightCall {
	above, first := impl.EigenAbove(g, n)
	at, second := impl.EigenAt(g, n)
	sum, third := impl.SpectralSum(g, n)
	return []weightCall{{"EigenAbove", above, first}, {"EigenAt", at, second}, {"SpectralSum", sum, third}}
}

func TestSpectrumFunctionsRefuseWhatIsNoGraph(t *testing.T) {
	for _, bad := range badGraphs() {
		what := fmt.Sprint(" of ", bad.Size, len(bad.Edges))
		checkRefused(t, what, spectrumCalls(bad), impl.ErrInvalid)
		// What is no graph is found before a number that is not as told.
		for _, n := range []int64{0, 1, 16, 17, -1, 30, -30, 31, -31, math.MaxInt64, math.MinInt64} {
			checkRefused(t, fmt.Sprint(what, n), momentCalls(bad, n), impl.ErrInvalid)
		}
		line, code := impl.LineGraph(bad)
		sameCode(t, "LineGraph"+what, code, impl.ErrInvalid)
		same(t, "LineGraph"+what, line, impl.Graph{})
		for name, f := range map[string]func(impl.Graph) (bool, int64){
			"IsRamanujan": impl.IsRamanujan, "IsSymmetricSpectrum": impl.IsSymmetricSpectrum,
		} {
			yes, code := f(bad)
			sameCode(t, name+what, code, impl.ErrInvalid)
			same(t, name+what, yes, false)
		}
	}
}

func TestSpectrumFunctionsRefuseNumbersOutOfRange(t *testing.T) {
	far := []int64{math.MaxInt64, math.MinInt64, math.MaxInt64 - 1, math.MinInt64 + 1, 1 << 32, -1 << 32, 1<<32 + 1, 1<<63 - 30, 1000}
	for _, g := range spectraGraphs(t) {
		for _, n := range append([]int64{31, 32, -31, -32, 33, 60, -60}, far...) {
			checkRefused(t, fmt.Sprint(" of ", g, n), momentCalls(g, n), impl.ErrRange)
		}
		for _, n := range []int64{-1, -2, 17, 18, -16, -30, 30} {
			sum, code := impl.SpectralSum(g, n)
			checkRefused(t, fmt.Sprint(" of ", g, n), []weightCall{{"SpectralSum", sum, code}}, impl.ErrRange)
			for _, c := range momentCalls(g, n)[:2] {
				sameCode(t, fmt.Sprint(c.name, " of ", g, n), c.code, impl.ErrNone)
			}
		}
	}
}

// spectrumResults returns a text of all that the functions of chapter 7 return for a graph, and
// overwrites the lists.
func spectrumResults(g impl.Graph) string {
	text := ""
	calls := spectrumCalls(g)
	slices.SortFunc(calls, func(a weightCall, b weightCall) int { return strings.Compare(a.name, b.name) })
	for _, n := range []int64{-31, -1, 0, 1, 2, 16, 30} {
		calls = append(calls, momentCalls(g, n)...)
	}
	for _, c := range calls {
		text += fmt.Sprint(c.name, c.result, c.code)
	}
	for _, c := range calls {
		if list, ok := c.result.([]int64); ok {
			scribble(list)
		}
	}
	ramanujan, a := impl.IsRamanujan(g)
	symmetric, b := impl.IsSymmetricSpectrum(g)
	line, c := impl.LineGraph(g)
	text += fmt.Sprint(ramanujan, a, symmetric, b, line, c)
	for _, e := range line.Edges {
		scribble(e)
	}
	return text
}

func TestSpectrumResultsShareNoMemory(t *testing.T) {
	for _, sample := range spectraGraphs(t) {
		g := roomyGraph(sample)
		before := wholeRows(g.Edges)
		results := spectrumResults(g)
		same(t, fmt.Sprint("results of ", sample), spectrumResults(g), results)
		line, _ := impl.LineGraph(g)
		ownRows(t, fmt.Sprint("LineGraph of ", sample), line.Edges)
		same(t, fmt.Sprint("memory of ", sample), wholeRows(g.Edges), before)
	}
}
