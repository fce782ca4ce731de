package tests

import (
	"fmt"
	"math"
	"math/bits"
	"slices"
	"testing"

	"loop.example/g01298/impl"
)

// minorsOf returns the determinants of some of the rows and as many of the columns, which bits tell,
// each expanded by its last row.
func minorsOf(rows [][]int64) [][]int64 {
	minors := squareRows(1 << len(rows))
	minors[0][0] = 1
	for r := 1; r < len(minors); r++ {
		last := bits.Len(uint(r)) - 1
		for c := range minors {
			if bits.OnesCount(uint(r)) != bits.OnesCount(uint(c)) {
				continue
			}
			sign := int64(1)
			for j := len(rows) - 1; j >= 0; j-- {
				if c>>j&1 == 1 {
					minors[r][c] += sign * rows[last][j] * minors[r&^(1<<last)][c&^(1<<j)]
					sign = -sign
				}
			}
		}
	}
	return minors
}

// commonDivisor returns the greatest common divisor of the absolute values of two numbers.
func commonDivisor(a int64, b int64) int64 {
	for b != 0 {
		a, b = b, a%b
	}
	return max(a, -a)
}

// handFactors returns the factors of rows by the greatest common divisors of their determinants.
func handFactors(rows [][]int64) []int64 {
	divisors := make([]int64, len(rows)+1)
	for r, row := range minorsOf(rows) {
		for _, minor := range row {
			k := bits.OnesCount(uint(r))
			divisors[k] = commonDivisor(divisors[k], minor)
		}
	}
	factors := make([]int64, len(rows))
	for k := range factors {
		if divisors[k+1] != 0 {
			factors[k] = divisors[k+1] / divisors[k]
		}
	}
	return factors
}

// groupGraphs returns all kinds of graphs, and more with many edges at few vertices, or in parts.
func groupGraphs(t *testing.T) []impl.Graph {
	graphs := treeGraphs(t)
	for _, c := range factorCases() {
		graphs = append(graphs, parsed(t, c.text))
	}
	d := dice(101)
	for range 150 {
		graphs = append(graphs, rolledGraph(&d, d.between(3, 6), d.between(8, 10)))
	}
	return graphs
}

// connectedGraphs returns those of the graphs that are connected.
func connectedGraphs(graphs []impl.Graph) []impl.Graph {
	var connected []impl.Graph
	for _, g := range graphs {
		if parts, _ := impl.PartsOf(g); len(parts) == 1 {
			connected = append(connected, g)
		}
	}
	return connected
}

// factorCase is a graph with its factors.
type factorCase struct {
	text string
	want []int64
}

// factorCases returns graphs with known factors.
func factorCases() []factorCase {
	return []factorCase{
		{"1:", []int64{0}},
		{"1:0-0", []int64{0}},
		{"1:0-0,0-0,0-0,0-0,0-0,0-0,0-0,0-0,0-0,0-0", []int64{0}},
		{"2:", []int64{0, 0}},
		{"8:", []int64{0, 0, 0, 0, 0, 0, 0, 0}},
		{"2:0-0,1-1", []int64{0, 0}},
		{"2:0-1", []int64{1, 0}},
		{"2:1-0,0-0,1-1", []int64{1, 0}},
		{"2:0-1,1-0,0-1", []int64{3, 0}},
		{"2:0-1,0-1,0-1,0-1,0-1,0-1,0-1,0-1,0-1,0-1", []int64{10, 0}},
		{"3:0-1", []int64{1, 0, 0}},
		{"3:0-1,1-2,2-0", []int64{1, 3, 0}},
		{"3:0-1,1-2,2-0,0-0,1-1,2-2", []int64{1, 3, 0}},
		{"3:0-1,0-1,1-2,1-2", []int64{2, 2, 0}},
		{"3:0-1,0-1,1-2,1-2,1-2", []int64{1, 6, 0}},
		{"3:0-1,0-1,0-1,1-2,1-2,1-2", []int64{3, 3, 0}},
		{"3:0-1,0-1,0-1,0-1,0-1,1-2,1-2,1-2,1-2,1-2", []int64{5, 5, 0}},
		{"3:0-1,0-1,0-1,0-1,0-1,0-1,1-2,1-2,1-2,1-2", []int64{2, 12, 0}},
		{"3:0-1,0-1,1-2,1-2,2-0,2-0", []int64{2, 6, 0}},
		{"3:0-1,0-1,0-1,1-2,1-2,1-2,2-0,2-0,2-0", []int64{3, 9, 0}},
		{"4:0-1,2-3", []int64{1, 1, 0, 0}},
		{"4:0-1,0-1,2-3,2-3", []int64{2, 2, 0, 0}},
		{"4:0-1,0-1,2-3,2-3,2-3", []int64{1, 6, 0, 0}},
		{"4:0-1,0-1,0-1,0-1,2-3,2-3,2-3,2-3,2-3,2-3", []int64{2, 12, 0, 0}},
		{"4:0-1,0-1,1-2,1-2,2-3,2-3", []int64{2, 2, 2, 0}},
		{"4:0-1,1-2,2-3,3-0", []int64{1, 1, 4, 0}},
		{"4:0-1,1-2,2-3,3-0,0-2", []int64{1, 1, 8, 0}},
		{"4:0-1,0-2,0-3,1-2,1-3,2-3", []int64{1, 4, 4, 0}},
		{"4:0-1,1-2,2-3,3-0,0-1,1-2,2-3,3-0", []int64{2, 2, 8, 0}},
		{"5:0-1,1-2,2-0,3-4", []int64{1, 1, 3, 0, 0}},
		{"5:0-1,1-2,2-0,3-4,4-3", []int64{1, 1, 6, 0, 0}},
		{"5:0-1,1-2,2-0,2-3,3-4,4-2", []int64{1, 1, 3, 3, 0}},
		{"5:0-1,0-2,0-3,0-4,1-2,1-3,1-4,2-3,2-4,3-4", []int64{1, 5, 5, 5, 0}},
		{"5:0-1,0-1,1-2,1-2,2-3,2-3,3-4,3-4,4-0,4-0", []int64{2, 2, 2, 10, 0}},
		{"6:0-1,1-2,2-0,3-4,4-5,5-3", []int64{1, 1, 3, 3, 0, 0}},
		{"6:0-1,0-1,1-2,1-2,2-3,2-3,3-4,3-4,4-5,4-5", []int64{2, 2, 2, 2, 2, 0}},
		{"6:0-1,1-0,2-3,3-2,2-3,4-5,5-4,4-5,5-4,5-4", []int64{1, 1, 30, 0, 0, 0}},
		{"6:0-1,1-0,2-3,3-2,2-3,4-5,5-4,4-5,5-4", []int64{1, 2, 12, 0, 0, 0}},
		{"7:0-1,1-2,2-0,3-4,4-5,5-6,6-3", []int64{1, 1, 1, 1, 12, 0, 0}},
		{"7:0-1,1-2,2-0,2-3,3-4,4-2,4-5,5-6,6-4", []int64{1, 1, 1, 3, 3, 3, 0}},
		{"8:0-1,1-2,2-0,3-4,4-5,5-3,6-7,6-7,6-7", []int64{1, 1, 3, 3, 3, 0, 0, 0}},
		{"8:0-1,1-2,2-3,3-0,4-5,5-6,6-7,7-4", []int64{1, 1, 1, 1, 4, 4, 0, 0}},
		{"8:0-1,2-3,4-5,6-7", []int64{1, 1, 1, 1, 0, 0, 0, 0}},
		{"8:0-1,0-1,2-3,2-3,4-5,4-5,6-7,6-7", []int64{2, 2, 2, 2, 0, 0, 0, 0}},
		{"8:0-1,1-2,2-3,3-4,4-5,5-6,6-7", []int64{1, 1, 1, 1, 1, 1, 1, 0}},
		{"8:0-1,1-2,2-3,3-4,4-5,5-6,6-7,7-0", []int64{1, 1, 1, 1, 1, 1, 8, 0}},
	}
}

func TestFactorsByText(t *testing.T) {
	for _, c := range factorCases() {
		factors, code := impl.FactorsOf(parsed(t, c.text))
		checkNumbers(t, "factors of "+c.text, factors, code, c.want)
	}
}

func TestFactorsByName(t *testing.T) {
	for _, c := range []struct {
		name     string
		want     []int64
		critical []int64
		classes  int64
	}{
		{"point", []int64{0}, nil, 1},
		{"edge", []int64{1, 0}, nil, 1},
		{"loop", []int64{0}, nil, 1},
		{"bouquet", []int64{0}, nil, 1},
		{"theta", []int64{3, 0}, []int64{3}, 3},
		{"dumbbell", []int64{1, 0}, nil, 1},
		{"triangle", []int64{1, 3, 0}, []int64{3}, 3},
		{"square", []int64{1, 1, 4, 0}, []int64{4}, 4},
		{"pentagon", []int64{1, 1, 1, 5, 0}, []int64{5}, 5},
		{"star", []int64{1, 1, 1, 0}, nil, 1},
		{"diamond", []int64{1, 1, 8, 0}, []int64{8}, 8},
		{"tetrahedron", []int64{1, 4, 4, 0}, []int64{4, 4}, 16},
		{"prism", []int64{1, 1, 1, 5, 15, 0}, []int64{5, 15}, 75},
		{"houses", []int64{1, 1, 3, 3, 9, 0}, []int64{3, 3, 9}, 81},
	} {
		g, code := impl.NamedGraph(c.name)
		sameCode(t, c.name, code, impl.ErrNone)
		factors, code := impl.FactorsOf(g)
		checkNumbers(t, "factors of "+c.name, factors, code, c.want)
		critical, code := impl.CriticalFactors(g)
		checkNumbers(t, "critical factors of "+c.name, critical, code, c.critical)
		classes, code := impl.CountClasses(g)
		checkNumber(t, "classes of "+c.name, classes, code, c.classes)
	}
	same(t, "names", len(impl.GraphNames()), 14)
}

func TestFactorsAreToldByDeterminants(t *testing.T) {
	for _, g := range slices.Concat(groupGraphs(t), smallGraphs(3, 3)) {
		factors, code := impl.FactorsOf(g)
		checkNumbers(t, fmt.Sprint("factors of ", g), factors, code, handFactors(handLaplacian(g)))
	}
}

func TestFactorsDivideEachOther(t *testing.T) {
	several := 0
	for _, g := range groupGraphs(t) {
		what := fmt.Sprint("factors of ", g)
		factors, code := impl.FactorsOf(g)
		sameCode(t, what, code, impl.ErrNone)
		same(t, what, int64(len(factors)), g.Size)
		zeros := 0
		for k, d := range factors {
			if d < 0 {
				t.Errorf("%s: got %v", what, factors)
			}
			if d == 0 {
				zeros++
			}
			// 0 is divided by all numbers, and divides 0 alone.
			if k > 0 && d != 0 && (factors[k-1] == 0 || d%factors[k-1] != 0) {
				t.Errorf("%s: got %v", what, factors)
			}
			if d > 1 && k > 0 && factors[k-1] > 1 {
				several++
			}
		}
		parts, _ := impl.PartsOf(g)
		same(t, "zeros of the "+what, zeros, len(parts))
	}
	if several < 50 {
		t.Errorf("there are only %d pairs of factors greater than 1", several)
	}
}

func TestCriticalFactorsMakeTheTreeNumber(t *testing.T) {
	connected := 0
	for _, g := range groupGraphs(t) {
		what := fmt.Sprint(" of ", g)
		critical, first := impl.CriticalFactors(g)
		classes, second := impl.CountClasses(g)
		if parts, _ := impl.PartsOf(g); len(parts) > 1 {
			checkRefused(t, what, []weightCall{{"CriticalFactors", critical, first}, {"CountClasses", classes, second}}, impl.ErrState)
			continue
		}
		connected++
		factors, _ := impl.FactorsOf(g)
		var want []int64
		product := int64(1)
		for _, d := range factors[:g.Size-1] {
			product *= d
			if d > 1 {
				want = append(want, d)
			}
		}
		checkNumbers(t, "critical factors"+what, critical, first, want)
		checkNumber(t, "classes"+what, classes, second, product)
		same(t, "trees"+what, classes, number(t, impl.CountTrees, g))
	}
	if connected < 100 {
		t.Errorf("there are only %d connected graphs", connected)
	}
}

// A graph that is renumbered has the same factors, as has one with more loops.
func TestFactorsOfRenumberedGraphs(t *testing.T) {
	d := dice(102)
	for _, g := range groupGraphs(t) {
		factors, _ := impl.FactorsOf(g)
		turned, code := impl.RenumberGraph(g, rolledMap(&d, g.Size))
		sameCode(t, "RenumberGraph", code, impl.ErrNone)
		again, code := impl.FactorsOf(turned)
		checkNumbers(t, fmt.Sprint("factors of ", turned), again, code, factors)
		if len(g.Edges) < impl.MaxEdges {
			v := d.below(g.Size)
			turned.Edges = append(turned.Edges, []int64{v, v})
			again, code = impl.FactorsOf(turned)
			checkNumbers(t, fmt.Sprint("factors of ", turned), again, code, factors)
		}
	}
}

// handSigned returns the signed Laplacian rows by their definition.
func handSigned(g impl.Graph, signs []int64) [][]int64 {
	rows := squareRows(int(g.Size))
	for i := range g.Size {
		for _, e := range directedEdges(g) {
			if e[0] == i {
				rows[i][i]++
			}
		}
		for j := range g.Size {
			for k, e := range g.Edges {
				switch {
				case i == j && e[0] == i && e[1] == i:
					rows[i][i] -= 2 * signs[k]
				case i != j && (e[0] == i && e[1] == j || e[0] == j && e[1] == i):
					rows[i][j] += -1 * signs[k]
				}
			}
		}
	}
	return rows
}

// checkSigned checks the signed Laplacian rows, and their determinant, and returns this.
func checkSigned(t *testing.T, g impl.Graph, signs []int64) int64 {
	t.Helper()
	what := fmt.Sprint(" of ", g, signs)
	want := handSigned(g, signs)
	rows, code := impl.SignedLaplacian(g, signs)
	sameCode(t, "SignedLaplacian"+what, code, impl.ErrNone)
	same(t, "SignedLaplacian"+what, rows, want)
	number, code := impl.SignedNumber(g, signs)
	sameCode(t, "SignedNumber"+what, code, impl.ErrNone)
	same(t, "SignedNumber"+what, residue(number), determinantRest(want))
	if g.Size <= 4 {
		all := len(minorsOf(want)) - 1
		same(t, "SignedNumber"+what, number, minorsOf(want)[all][all])
	}
	if number < 0 {
		t.Errorf("SignedNumber%s: %d", what, number)
	}
	return number
}

func TestSignedLaplacians(t *testing.T) {
	d := dice(103)
	for _, g := range groupGraphs(t) {
		plus := filled(len(g.Edges), 1)
		rows, code := impl.SignedLaplacian(g, plus)
		sameCode(t, "SignedLaplacian", code, impl.ErrNone)
		laplacian, _ := impl.LaplacianRows(g)
		same(t, fmt.Sprint("signs of 1 of ", g), rows, laplacian)
		same(t, fmt.Sprint("number of signs of 1 of ", g), checkSigned(t, g, plus), int64(0))
		checkSigned(t, g, filled(len(g.Edges), -1))
		for range 4 {
			checkSigned(t, g, rolledSigns(&d, len(g.Edges)))
		}
	}
}

func TestSignedLaplaciansByText(t *testing.T) {
	for _, c := range []struct {
		text   string
		signs  []int64
		want   [][]int64
		number int64
	}{
		{"1:", nil, [][]int64{{0}}, 0},
		{"2:", []int64{}, [][]int64{{0, 0}, {0, 0}}, 0},
		{"1:0-0", []int64{1}, [][]int64{{0}}, 0},
		{"1:0-0", []int64{-1}, [][]int64{{4}}, 4},
		{"1:0-0,0-0", []int64{1, -1}, [][]int64{{4}}, 4},
		{"1:0-0,0-0", []int64{-1, -1}, [][]int64{{8}}, 8},
		{"1:0-0,0-0,0-0,0-0,0-0,0-0,0-0,0-0,0-0,0-0", filled(10, -1), [][]int64{{40}}, 40},
		{"2:0-1", []int64{1}, [][]int64{{1, -1}, {-1, 1}}, 0},
		{"2:0-1", []int64{-1}, [][]int64{{1, 1}, {1, 1}}, 0},
		{"2:1-0,0-1", []int64{1, -1}, [][]int64{{2, 0}, {0, 2}}, 4},
		{"2:1-0,0-1,0-1", []int64{-1, -1, 1}, [][]int64{{3, 1}, {1, 3}}, 8},
		{"2:0-0,1-1", []int64{-1, -1}, [][]int64{{4, 0}, {0, 4}}, 16},
		{"2:0-0,0-1", []int64{-1, 1}, [][]int64{{5, -1}, {-1, 1}}, 4},
		{"2:0-0,0-1", []int64{-1, -1}, [][]int64{{5, 1}, {1, 1}}, 4},
		{"2:0-0,0-1,1-1", []int64{1, -1, 1}, [][]int64{{1, 1}, {1, 1}}, 0},
		{"2:0-0,0-1,1-1", []int64{-1, 1, -1}, [][]int64{{5, -1}, {-1, 5}}, 24},
		{"3:0-1,1-2,2-0", []int64{-1, 1, 1}, [][]int64{{2, 1, -1}, {1, 2, -1}, {-1, -1, 2}}, 4},
		{"3:0-1,1-2,2-0", []int64{1, 1, -1}, [][]int64{{2, -1, 1}, {-1, 2, -1}, {1, -1, 2}}, 4},
		{"3:0-1,1-2,2-0", []int64{-1, -1, 1}, [][]int64{{2, 1, -1}, {1, 2, 1}, {-1, 1, 2}}, 0},
		{"3:0-1,1-2,2-0", []int64{-1, -1, -1}, [][]int64{{2, 1, 1}, {1, 2, 1}, {1, 1, 2}}, 4},
		{"3:0-1,2-2", []int64{1, -1}, [][]int64{{1, -1, 0}, {-1, 1, 0}, {0, 0, 4}}, 0},
		{"5:0-0,0-0,1-1,1-1,2-2,2-2,3-3,3-3,4-4,4-4", filled(10, -1),
			[][]int64{{8, 0, 0, 0, 0}, {0, 8, 0, 0, 0}, {0, 0, 8, 0, 0}, {0, 0, 0, 8, 0}, {0, 0, 0, 0, 8}}, 32768},
		{"8:0-0,1-1,2-2,3-3,4-4,5-5,6-6,7-7,0-1,2-3", filled(10, -1), nil, 24 * 24 * 4 * 4 * 4 * 4},
	} {
		g := parsed(t, c.text)
		same(t, fmt.Sprint("signed number of ", c.text, c.signs), checkSigned(t, g, c.signs), c.number)
		rows, _ := impl.SignedLaplacian(g, c.signs)
		if c.want != nil {
			same(t, fmt.Sprint("signed rows of ", c.text, c.signs), rows, c.want)
		}
	}
}

// checkTreesOfCover checks the trees of the double cover of a connected graph, and reports whether
// it is connected.
func checkTreesOfCover(t *testing.T, g impl.Graph, signs []int64) bool {
	t.Helper()
	what := fmt.Sprint("trees of the double cover of ", g, signs)
	cover, code := impl.DoubleCover(g, signs)
	sameCode(t, what, code, impl.ErrNone)
	connected, code := impl.IsConnectedCover(cover)
	sameCode(t, what, code, impl.ErrNone)
	number, code := impl.SignedNumber(g, signs)
	sameCode(t, what, code, impl.ErrNone)
	// A connected graph has a cover in parts just for signs that are as good as signs of 1.
	same(t, what, number != 0, connected)
	classes, code := impl.CountClasses(g)
	sameCode(t, what, code, impl.ErrNone)
	same(t, what, number*classes%2, int64(0))
	want := number * classes / 2
	same(t, what, determinantRest(without(handLaplacian(derivedByHand(cover)), 0)), residue(want))
	if exceeds(cover) {
		return connected
	}
	derived, code := impl.DerivedGraph(cover)
	sameCode(t, what, code, impl.ErrNone)
	trees, code := impl.CountTrees(derived)
	checkNumber(t, what, trees, code, want)
	above, code := impl.CountClasses(derived)
	if connected {
		checkNumber(t, what, above, code, want)
	} else {
		checkRefused(t, what, []weightCall{{"CountClasses", above, code}}, impl.ErrState)
	}
	return connected
}

func TestTreesOfDoubleCoversAreToldBySignedNumbers(t *testing.T) {
	d := dice(104)
	found := map[bool]int{}
	for _, g := range connectedGraphs(groupGraphs(t)) {
		lists := [][]int64{filled(len(g.Edges), 1), filled(len(g.Edges), -1), rolledSigns(&d, len(g.Edges)), rolledSigns(&d, len(g.Edges))}
		if len(g.Edges) <= 5 {
			lists = signLists(len(g.Edges))
		}
		for _, signs := range lists {
			found[checkTreesOfCover(t, g, signs)]++
		}
	}
	if found[true] < 300 || found[false] < 100 {
		t.Errorf("connected covers and others: %v", found)
	}
}

// groupCalls returns calls of the functions of a graph alone, the first one of which needs no
// connected graph.
func groupCalls(g impl.Graph) []weightCall {
	factors, first := impl.FactorsOf(g)
	critical, second := impl.CriticalFactors(g)
	classes, third := impl.CountClasses(g)
	return []weightCall{{"FactorsOf", factors, first}, {"CriticalFactors", critical, second}, {"CountClasses", classes, third}}
}

// signedCalls returns calls of the functions with signs.
func signedCalls(g impl.Graph, signs []int64) []weightCall {
	rows, first := impl.SignedLaplacian(g, signs)
	number, second := impl.SignedNumber(g, signs)
	return []weightCall{{"SignedLaplacian", rows, first}, {"SignedNumber", number, second}}
}

func TestGroupFunctionsRefuseWhatIsNoGraph(t *testing.T) {
	for _, bad := range badGraphs() {
		what := fmt.Sprint(" of ", bad.Size, len(bad.Edges))
		checkRefused(t, what, groupCalls(bad), impl.ErrInvalid)
		// What is no graph is found before signs that are none.
		for _, signs := range [][]int64{nil, {1}, {-1}, {0}, {math.MinInt64}, {math.MaxInt64}, filled(len(bad.Edges), 1), filled(len(bad.Edges), 0)} {
			checkRefused(t, what, signedCalls(bad, signs), impl.ErrInvalid)
		}
	}
}

func TestGroupFunctionsRefuseGraphsInParts(t *testing.T) {
	for _, text := range []string{"2:", "8:", "2:0-0,1-1", "4:0-1,2-3", "5:0-1,1-2,2-0,3-4", "8:0-1,1-2,2-3,3-4,4-5,5-6,6-0",
		"8:1-2,2-3,3-4,4-5,5-6,6-7", "3:0-2,2-0,1-1"} {
		g := parsed(t, text)
		calls := groupCalls(g)
		sameCode(t, "FactorsOf "+text, calls[0].code, impl.ErrNone)
		checkRefused(t, " of "+text, calls[1:], impl.ErrState)
		for _, c := range signedCalls(g, filled(len(g.Edges), -1)) {
			sameCode(t, c.name+text, c.code, impl.ErrNone)
		}
	}
}

func TestSignedFunctionsRefuseListsThatAreNoSigns(t *testing.T) {
	for _, text := range []string{"1:", "8:", "1:0-0", "4:0-1,2-3", "3:0-1,1-2,2-0", "8:0-1,1-2,2-3,3-4,4-5,5-6,6-7,7-0,0-4,2-6"} {
		g := parsed(t, text)
		for _, signs := range refusedLists(len(g.Edges), []int64{0, 2, -2, 3, 1<<32 + 1, 1<<32 - 1, math.MaxInt64, math.MinInt64, math.MinInt64 + 1}) {
			checkRefused(t, fmt.Sprint(" of ", text, signs), signedCalls(g, signs), impl.ErrRange)
		}
	}
}

// groupResults returns a text of what the functions of graphs and signs return, and overwrites the
// lists.
func groupResults(g impl.Graph, signs []int64) string {
	factors, a := impl.FactorsOf(g)
	critical, b := impl.CriticalFactors(g)
	classes, c := impl.CountClasses(g)
	rows, d := impl.SignedLaplacian(g, signs)
	number, e := impl.SignedNumber(g, signs)
	text := fmt.Sprint(factors, critical, classes, rows, number, a, b, c, d, e)
	for _, list := range append(rows, factors, critical) {
		scribble(list)
	}
	return text
}

func TestGroupResultsShareNoMemory(t *testing.T) {
	d := dice(105)
	for _, sample := range groupGraphs(t) {
		g := roomyGraph(sample)
		for _, list := range [][]int64{rolledSigns(&d, len(g.Edges)), filled(len(g.Edges)+1, 1), filled(len(g.Edges), 2)} {
			signs := roomy(list)
			before := wholeRows(g.Edges) + wholeMemory(signs)
			results := groupResults(g, signs)
			same(t, fmt.Sprint("results of ", sample), groupResults(g, signs), results)
			same(t, fmt.Sprint("memory of ", sample), wholeRows(g.Edges)+wholeMemory(signs), before)
			rows, _ := impl.SignedLaplacian(g, signs)
			ownRows(t, fmt.Sprint("SignedLaplacian of ", sample), rows)
		}
	}
}
