package tests

import (
	"fmt"
	"math"
	"slices"
	"testing"

	"loop.example/g01298/impl"
)

// valuePrimes returns all primes of chapter 9.
func valuePrimes() []int64 {
	var primes []int64
	listed := primesUpTo(impl.MaxPrime)
	for p := range int64(impl.MaxPrime + 1) {
		if listed[p] {
			primes = append(primes, p)
		}
	}
	return primes
}

// namedGraphs returns the graphs with names.
func namedGraphs() []impl.Graph {
	var graphs []impl.Graph
	for _, name := range impl.GraphNames() {
		g, _ := impl.NamedGraph(name)
		graphs = append(graphs, g)
	}
	return graphs
}

func TestConstantsOfValues(t *testing.T) {
	same(t, "MaxPrime", impl.MaxPrime, 101)
	same(t, "MaxSums", impl.MaxSums, 24)
	same(t, "number of primes", len(valuePrimes()), 26)
}

func TestEdgeRowsAndFollowers(t *testing.T) {
	for _, g := range zetaGraphs(t) {
		rows, code := impl.EdgeRows(g)
		sameCode(t, fmt.Sprint("EdgeRows of ", g), code, impl.ErrNone)
		same(t, fmt.Sprint("edge rows of ", g), rows, edgeMatrix(g))
		for e, row := range edgeMatrix(g) {
			var want []int64
			for f, n := range row {
				walks, code := impl.IsWalk(g, []int64{int64(e), int64(f)})
				checkYes(t, fmt.Sprint("walk ", e, f, " of ", g), walks, code, n == 1)
				if n == 1 {
					want = append(want, int64(f))
				}
			}
			list, code := impl.FollowersOf(g, int64(e))
			checkNumbers(t, fmt.Sprint("followers of ", e, " of ", g), list, code, want)
		}
	}
}

func TestEdgeRowsByText(t *testing.T) {
	for _, c := range []struct {
		text string
		want [][]int64
	}{
		{"1:", nil},
		{"8:", nil},
		{"2:0-1", [][]int64{{0, 0}, {0, 0}}},
		{"1:0-0", [][]int64{{1, 0}, {0, 1}}},
		{"2:0-1,1-0", [][]int64{{0, 0, 1, 0}, {0, 0, 0, 1}, {1, 0, 0, 0}, {0, 1, 0, 0}}},
		{"2:0-1,0-1", [][]int64{{0, 0, 0, 1}, {0, 0, 1, 0}, {0, 1, 0, 0}, {1, 0, 0, 0}}},
		{"1:0-0,0-0", [][]int64{{1, 0, 1, 1}, {0, 1, 1, 1}, {1, 1, 1, 0}, {1, 1, 0, 1}}},
		{"3:0-1,1-2", [][]int64{{0, 0, 1, 0}, {0, 0, 0, 0}, {0, 0, 0, 0}, {0, 1, 0, 0}}},
		{"4:3-2,0-1", [][]int64{{0, 0, 0, 0}, {0, 0, 0, 0}, {0, 0, 0, 0}, {0, 0, 0, 0}}},
	} {
		rows, code := impl.EdgeRows(parsed(t, c.text))
		sameCode(t, c.text, code, impl.ErrNone)
		same(t, "edge rows of "+c.text, rows, c.want)
	}
}

// checkPlaces checks the edge values of all numbers u of a prime against the reciprocal, and the
// roots against both, and returns the edge values.
func checkPlaces(t *testing.T, g impl.Graph, p int64, reciprocal []int64) []int64 {
	t.Helper()
	f := listModulo(reciprocal, p)
	var values, roots []int64
	for u := range p {
		value, code := impl.EdgeValue(g, p, u)
		if want := valueModulo(f, u, p); value != want || code != impl.ErrNone {
			t.Errorf("edge value of %d %d of %v: got %d and code %d, want %d", p, u, g, value, code, want)
		}
		values = append(values, value)
		if value == 0 {
			roots = append(roots, u)
		}
	}
	list, code := impl.RootsModulo(g, p)
	if !slices.Equal(list, roots) || code != impl.ErrNone {
		t.Errorf("roots of %d of %v: got %v and code %d, want %v", p, g, list, code, roots)
	}
	return values
}

func TestEdgeValuesAreThoseOfTheDeterminantPolynomial(t *testing.T) {
	for _, g := range namedGraphs() {
		reciprocal, _ := impl.ReciprocalOf(g)
		for _, p := range valuePrimes() {
			checkPlaces(t, g, p, reciprocal)
		}
	}
	for _, g := range zetaGraphs(t) {
		reciprocal, _ := impl.ReciprocalOf(g)
		for _, p := range []int64{2, 3, 5, 7, 23} {
			values := checkPlaces(t, g, p, reciprocal)
			same(t, fmt.Sprint("edge value of 0 of ", g), values[0], int64(1))
		}
	}
}

func TestEdgeValuesAreDeterminants(t *testing.T) {
	d := dice(91)
	for _, g := range zetaGraphs(t) {
		rows := edgeMatrix(g)
		for _, p := range []int64{2, 3, 7, valuePrimes()[d.below(26)], 97, 101} {
			for _, u := range []int64{0, 1, p - 1, d.below(p), d.below(p)} {
				value, code := impl.EdgeValue(g, p, u)
				checkNumber(t, fmt.Sprint("edge value of ", p, " ", u, g), value, code, determinantModulo(unitLess(rows, u, p), p))
			}
		}
	}
}

func TestEdgeValuesByText(t *testing.T) {
	for _, c := range []struct {
		text string
		p    int64
		want []int64
	}{
		{"1:", 2, []int64{1, 1}},
		{"8:", 3, []int64{1, 1, 1}},
		{"2:0-1", 5, []int64{1, 1, 1, 1, 1}},
		{"1:0-0", 2, []int64{1, 0}},
		{"1:0-0", 7, []int64{1, 0, 1, 4, 2, 2, 4}},
		{"1:0-0,0-0", 3, []int64{1, 0, 0}},
		{"1:0-0,0-0", 5, []int64{1, 0, 0, 2, 0}},
		{"3:0-1,1-2,2-0", 2, []int64{1, 0}},
		{"3:0-1,1-2,2-0", 3, []int64{1, 0, 1}},
		{"3:0-1,1-2,2-0", 7, []int64{1, 0, 0, 4, 0, 4, 4}},
		{"4:0-1,1-2,2-3,3-0", 5, []int64{1, 0, 0, 0, 0}},
		{"4:0-1,1-2,2-0,2-3", 7, []int64{1, 0, 0, 4, 0, 4, 4}},
	} {
		g := parsed(t, c.text)
		var roots []int64
		for u, want := range c.want {
			value, code := impl.EdgeValue(g, c.p, int64(u))
			checkNumber(t, fmt.Sprint("edge value of ", c.text, c.p, u), value, code, want)
			if want == 0 {
				roots = append(roots, int64(u))
			}
		}
		list, code := impl.RootsModulo(g, c.p)
		checkNumbers(t, fmt.Sprint("roots of ", c.text, c.p), list, code, roots)
	}
}

// resolventRows returns the resolvents at all directed edges, for a number that is no root.
func resolventRows(t *testing.T, g impl.Graph, p int64, u int64) [][]int64 {
	t.Helper()
	rows := squareRows(2 * len(g.Edges))
	for e := range rows {
		for f := range rows {
			n, code := impl.ResolventAt(g, p, u, int64(e), int64(f))
			if code != impl.ErrNone || n < 0 || n >= p {
				t.Errorf("resolvent of %d %d at %d %d of %v: got %d and code %d", p, u, e, f, g, n, code)
			}
			rows[e][f] = n
		}
	}
	return rows
}

// resolventPlaces returns primes and numbers at which all resolvents of a graph are looked at: the
// more edges it has, the fewer.
func resolventPlaces(d *dice, g impl.Graph) [][2]int64 {
	places := [][2]int64{{2, 0}, {2, 1}, {3, 2}, {101, d.between(1, 100)}}
	if len(g.Edges) > 6 {
		return places
	}
	for _, p := range []int64{3, 5, 7} {
		for u := range p {
			places = append(places, [2]int64{p, u})
		}
	}
	return append(places, [2]int64{101, 0}, [2]int64{101, 100}, [2]int64{101, 1}, [2]int64{97, d.below(97)}, [2]int64{97, 96})
}

// checkResolvents checks that the resolvents are the inverse, from both sides, or that there are
// none, and the trace with them, and reports whether there are resolvents.
func checkResolvents(t *testing.T, g impl.Graph, p int64, u int64) bool {
	t.Helper()
	what := fmt.Sprint(" of ", p, " ", u, g)
	less := unitLess(edgeMatrix(g), u, p)
	trace, code := impl.TraceResolvent(g, p, u)
	if determinantModulo(less, p) == 0 {
		checkRefused(t, what, resolventCalls(g, p, u, 0, int64(2*len(g.Edges)-1)), impl.ErrState)
		return false
	}
	resolvents := resolventRows(t, g, p, u)
	unit := squareRows(len(less))
	sum := int64(0)
	for e := range unit {
		unit[e][e] = 1
		sum += resolvents[e][e]
	}
	same(t, "equation"+what, rowsModulo(timesRows(less, resolvents), p), rowsModulo(unit, p))
	same(t, "equation from the other side"+what, rowsModulo(timesRows(resolvents, less), p), rowsModulo(unit, p))
	checkNumber(t, "trace"+what, trace, code, modulo(sum, p))
	return true
}

func TestResolventsSolveTheirEquations(t *testing.T) {
	d := dice(92)
	graphs := namedGraphs()
	for _, text := range []string{"8:", "4:0-1,2-3", "5:0-1,1-2,2-0,3-4", "4:0-0,0-0,1-1,2-3", "3:0-1,1-0,2-2", "8:0-1,1-2,2-3,3-0,0-2",
		"1:0-0,0-0,0-0", "2:0-1,1-0,0-1,1-0", "4:3-3,3-0,0-3,1-1,1-2", "8:0-1,1-2,2-3,3-4,4-5,5-6,6-7,7-0,0-4,2-6"} {
		graphs = append(graphs, parsed(t, text))
	}
	solved, roots := 0, 0
	for _, g := range graphs {
		for _, place := range resolventPlaces(&d, g) {
			if checkResolvents(t, g, place[0], place[1]) {
				solved++
			} else {
				roots++
			}
		}
	}
	if solved < 100 || roots < 50 {
		t.Errorf("%d places with resolvents, %d without", solved, roots)
	}
}

func TestResolventsOfRolledGraphs(t *testing.T) {
	d := dice(93)
	for _, g := range zetaGraphs(t) {
		if len(g.Edges) > 5 {
			continue
		}
		p := valuePrimes()[d.below(26)]
		for _, u := range []int64{p - 1, d.below(p), d.below(p)} {
			checkResolvents(t, g, p, u)
		}
	}
}

// TestTracesOfResolventsAreToldByDerivatives uses that the sum of the powers of u times the traces
// of the powers of rows, that of the unit matrix included, is the trace of the inverse.
func TestTracesOfResolventsAreToldByDerivatives(t *testing.T) {
	d := dice(94)
	for _, g := range zetaGraphs(t) {
		reciprocal, _ := impl.ReciprocalOf(g)
		derivative, code := impl.DerivativeOfWhole(reciprocal)
		sameCode(t, "DerivativeOfWhole", code, impl.ErrNone)
		for _, p := range []int64{2, 3, 5, valuePrimes()[d.below(26)], 97, 101} {
			for _, u := range []int64{0, 1, p - 1, d.below(p), d.below(p)} {
				what := fmt.Sprint("trace of ", p, " ", u, g)
				value := valueModulo(listModulo(reciprocal, p), u, p)
				trace, code := impl.TraceResolvent(g, p, u)
				if value == 0 {
					checkRefused(t, what, []weightCall{{"TraceResolvent", trace, code}}, impl.ErrState)
					continue
				}
				slope := u * valueModulo(listModulo(derivative, p), u, p)
				want := modulo((int64(2*len(g.Edges))*value-slope)*inverseModulo(value, p), p)
				checkNumber(t, what, trace, code, want)
			}
		}
	}
}

func TestResolventsByText(t *testing.T) {
	for _, c := range []struct {
		text  string
		p, u  int64
		want  [][]int64
		trace int64
	}{
		{"1:", 2, 1, nil, 0},
		{"8:", 101, 100, nil, 0},
		{"2:0-1", 7, 5, [][]int64{{1, 0}, {0, 1}}, 2},
		{"2:0-1", 2, 1, [][]int64{{1, 0}, {0, 1}}, 0},
		{"1:0-0", 7, 0, [][]int64{{1, 0}, {0, 1}}, 2},
		{"1:0-0", 7, 3, [][]int64{{3, 0}, {0, 3}}, 6},
		{"1:0-0", 7, 6, [][]int64{{4, 0}, {0, 4}}, 1},
		{"1:0-0", 101, 100, [][]int64{{51, 0}, {0, 51}}, 1},
		{"3:0-1,1-2", 5, 3, [][]int64{{1, 0, 3, 0}, {0, 1, 0, 0}, {0, 0, 1, 0}, {0, 3, 0, 1}}, 4},
		{"2:0-1,1-0", 7, 3, [][]int64{{6, 0, 4, 0}, {0, 6, 0, 4}, {4, 0, 6, 0}, {0, 4, 0, 6}}, 3},
		{"3:0-1,1-2,2-0", 5, 2, [][]int64{{2, 0, 4, 0, 3, 0}, {0, 2, 0, 3, 0, 4}, {3, 0, 2, 0, 4, 0}, {0, 4, 0, 2, 0, 3},
			{4, 0, 3, 0, 2, 0}, {0, 3, 0, 4, 0, 2}}, 2},
		{"1:0-0,0-0", 5, 3, [][]int64{{4, 2, 1, 1}, {2, 4, 1, 1}, {1, 1, 4, 2}, {1, 1, 2, 4}}, 1},
	} {
		g := parsed(t, c.text)
		same(t, fmt.Sprint("resolvents of ", c.text, c.p, c.u), resolventRows(t, g, c.p, c.u), c.want)
		trace, code := impl.TraceResolvent(g, c.p, c.u)
		checkNumber(t, fmt.Sprint("trace of ", c.text, c.p, c.u), trace, code, c.trace)
	}
}

// handDegreeProduct returns the product of the degrees less 1.
func handDegreeProduct(g impl.Graph) int64 {
	product := int64(1)
	for v := range g.Size {
		degree := int64(0)
		for _, e := range directedEdges(g) {
			if e[0] == v {
				degree++
			}
		}
		product *= degree - 1
	}
	return product
}

// checkEdgeDeterminant checks the degree product, and the edge determinant by its rests and, for a
// few edges, by expansion, and returns both.
func checkEdgeDeterminant(t *testing.T, g impl.Graph) (int64, int64) {
	t.Helper()
	product, code := impl.DegreeProduct(g)
	checkNumber(t, fmt.Sprint("degree product of ", g), product, code, handDegreeProduct(g))
	determinant, code := impl.EdgeDeterminant(g)
	rows := edgeMatrix(g)
	sameCode(t, fmt.Sprint("EdgeDeterminant of ", g), code, impl.ErrNone)
	same(t, fmt.Sprint("edge determinant of ", g), residue(determinant), determinantRest(rows))
	reciprocal, _ := impl.ReciprocalOf(g)
	same(t, fmt.Sprint("last number of the reciprocal of ", g), at(reciprocal, len(rows)), determinant)
	if len(rows) <= 8 {
		// The determinant at -1 of the unit matrix less u times rows and 1 is that of the rows.
		shifted := copyOfRows(rows)
		for e := range shifted {
			shifted[e][e]--
		}
		same(t, fmt.Sprint("expanded determinant of ", g), exactDeterminant(shifted, -1).String(), fmt.Sprint(determinant))
	}
	return product, determinant
}

func TestEdgeDeterminantsAreProductsOfDegreesUpToTheSign(t *testing.T) {
	graphs := slices.Concat(zetaGraphs(t), smallGraphs(3, 3))
	for _, text := range []string{
		"1:0-0,0-0,0-0,0-0,0-0,0-0,0-0,0-0,0-0,0-0", "2:0-0,0-0,0-0,0-0,0-0,1-1,1-1,1-1,1-1,1-1",
		"4:0-0,0-1,0-1,1-2,1-2,2-2,2-3,3-3,3-0,1-3", "4:0-0,0-0,1-1,1-1,2-2,2-2,3-3,3-3,0-1,2-3",
		"5:0-1,0-2,0-3,0-4,1-2,1-3,1-4,2-3,2-4,3-4", "8:0-1,1-2,2-0,3-3,4-5,6-7,6-7,6-7",
	} {
		graphs = append(graphs, parsed(t, text))
	}
	signs := map[int64]int{}
	for _, g := range graphs {
		product, determinant := checkEdgeDeterminant(t, g)
		if determinant != product && determinant != -product {
			t.Errorf("edge determinant of %v: got %d, want %d up to the sign", g, determinant, product)
		}
		if determinant != 0 {
			signs[determinant/product]++
		}
	}
	if signs[1] < 10 || signs[-1] < 10 {
		t.Errorf("signs %v", signs)
	}
}

func TestEdgeDeterminantsByText(t *testing.T) {
	for _, c := range []struct {
		text        string
		product     int64
		determinant int64
	}{
		{"1:", -1, 1},
		{"2:", 1, 1},
		{"7:", -1, 1},
		{"8:", 1, 1},
		{"2:0-1", 0, 0},
		{"3:0-1", 0, 0},
		{"1:0-0", 1, 1},
		{"2:0-0", -1, 1},
		{"1:0-0,0-0", 3, -3},
		{"1:0-0,0-0,0-0", 5, 5},
		{"2:0-1,0-1,0-1", 4, -4},
		{"2:0-0,0-1,1-1", 4, -4},
		{"3:0-1,1-2,2-0", 1, 1},
		{"4:0-1,1-2,2-3,3-0", 1, 1},
		{"4:0-1,0-2,0-3", 0, 0},
		{"4:0-1,1-2,2-3,3-0,0-2", 4, -4},
		{"4:0-1,0-2,0-3,1-2,1-3,2-3", 16, 16},
		{"5:0-1,0-2,0-3,0-4,1-2,1-3,1-4,2-3,2-4,3-4", 243, -243},
		{"1:0-0,0-0,0-0,0-0,0-0,0-0,0-0,0-0,0-0,0-0", 19, -19},
		{"2:0-1,0-1,0-1,0-1,0-1,0-1,0-1,0-1,0-1,0-1", 81, 81},
	} {
		g := parsed(t, c.text)
		product, determinant := checkEdgeDeterminant(t, g)
		same(t, "degree product of "+c.text, product, c.product)
		same(t, "edge determinant of "+c.text, determinant, c.determinant)
	}
}

// resolventCalls returns calls of the functions that need a number that is no root; there is no
// resolvent at directed edges of a graph without edges, told by e > f.
func resolventCalls(g impl.Graph, p int64, u int64, e int64, f int64) []weightCall {
	trace, first := impl.TraceResolvent(g, p, u)
	calls := []weightCall{{"TraceResolvent", trace, first}}
	if e <= f {
		number, second := impl.ResolventAt(g, p, u, e, f)
		calls = append(calls, weightCall{"ResolventAt", number, second})
	}
	return calls
}

// placeCalls returns calls of all functions with a prime and a number u.
func placeCalls(g impl.Graph, p int64, u int64) []weightCall {
	value, code := impl.EdgeValue(g, p, u)
	return append(resolventCalls(g, p, u, 0, 0), weightCall{"EdgeValue", value, code})
}

// primeCallOf returns a call of the function with a prime alone.
func primeCallOf(g impl.Graph, p int64) []weightCall {
	roots, code := impl.RootsModulo(g, p)
	return []weightCall{{"RootsModulo", roots, code}}
}

func TestPrimesOfValues(t *testing.T) {
	primes := primesUpTo(impl.MaxPrime)
	for _, text := range []string{"2:0-1", "3:0-1,1-2,2-0", "1:0-0"} {
		g := parsed(t, text)
		for p := int64(-120); p <= 300; p++ {
			what := fmt.Sprint(" of ", text, p)
			if primes[p] {
				// 0 is never a root.
				for _, c := range slices.Concat(placeCalls(g, p, 0), primeCallOf(g, p)) {
					sameCode(t, c.name+what, c.code, impl.ErrNone)
				}
				continue
			}
			for _, u := range []int64{0, 1, p - 1} {
				checkRefused(t, what, slices.Concat(placeCalls(g, p, u), primeCallOf(g, p)), impl.ErrRange)
			}
		}
		for _, p := range []int64{math.MinInt64, math.MinInt64 + 1, math.MinInt64 + 7, math.MaxInt64, math.MaxInt64 - 24, math.MaxInt32,
			1 << 32, 1<<32 + 2, 1<<32 + 7, -1<<32 + 7, 1<<61 - 1, 9973, 10007, 10403, 103 * 107} {
			checkRefused(t, fmt.Sprint(" of ", p), slices.Concat(placeCalls(g, p, 0), primeCallOf(g, p)), impl.ErrRange)
		}
	}
}

func TestValueFunctionsRefuseNumbersOutOfRange(t *testing.T) {
	for _, text := range []string{"1:", "8:", "1:0-0", "2:0-1", "3:0-1,1-2,2-0", "8:0-1,1-2,2-3,3-4,4-5,5-6,6-7,7-0,0-4,2-6"} {
		g := parsed(t, text)
		directed := int64(2 * len(g.Edges))
		for _, p := range []int64{2, 3, 7, 101} {
			for _, u := range append(outside(p), -p, 2*p, math.MinInt64+1) {
				checkRefused(t, fmt.Sprint(" of ", text, p, u), placeCalls(g, p, u), impl.ErrRange)
			}
			// Directed edges out of range are found before roots: 1 is one where there is a cycle.
			for _, u := range []int64{0, 1, p - 1} {
				for _, e := range append(outside(directed), -directed, 2*directed, math.MinInt64+1) {
					if 0 <= e && e < directed {
						continue
					}
					for _, pair := range [][2]int64{{e, 0}, {0, e}, {e, e}, {e, directed - 1}, {directed - 1, e}} {
						number, code := impl.ResolventAt(g, p, u, pair[0], pair[1])
						checkRefused(t, fmt.Sprint(" of ", text, p, u, pair), []weightCall{{"ResolventAt", number, code}}, impl.ErrRange)
					}
				}
			}
		}
		for _, e := range append(outside(directed), 2*directed, math.MinInt64+1) {
			if 0 <= e && e < directed {
				continue
			}
			list, code := impl.FollowersOf(g, e)
			checkRefused(t, fmt.Sprint(" of ", text, e), []weightCall{{"FollowersOf", list, code}}, impl.ErrRange)
		}
	}
}

func TestThereIsNoResolventAtRoots(t *testing.T) {
	for _, g := range namedGraphs() {
		for _, p := range []int64{2, 3, 7, 101} {
			roots, _ := impl.RootsModulo(g, p)
			for _, u := range roots {
				for e := range int64(2 * len(g.Edges)) {
					f := int64(2*len(g.Edges)) - 1 - e
					checkRefused(t, fmt.Sprint(" of ", g, p, u), resolventCalls(g, p, u, min(e, f), max(e, f)), impl.ErrState)
				}
			}
		}
	}
}

func TestValueFunctionsRefuseWhatIsNoGraph(t *testing.T) {
	for _, bad := range badGraphs() {
		what := fmt.Sprint(" of ", bad.Size, len(bad.Edges))
		rows, first := impl.EdgeRows(bad)
		product, second := impl.DegreeProduct(bad)
		determinant, third := impl.EdgeDeterminant(bad)
		checkRefused(t, what, []weightCall{{"EdgeRows", rows, first}, {"DegreeProduct", product, second}, {"EdgeDeterminant", determinant, third}}, impl.ErrInvalid)
		// What is no graph is found before a number that is not as told.
		numbers := []int64{0, 1, 2, 7, 20, -1, math.MaxInt64, math.MinInt64}
		for _, n := range numbers {
			list, code := impl.FollowersOf(bad, n)
			checkRefused(t, what, []weightCall{{"FollowersOf", list, code}}, impl.ErrInvalid)
			for _, p := range []int64{7, 2, 101, 0, 1, -7, 9, 103, math.MaxInt64, math.MinInt64} {
				checkRefused(t, what, slices.Concat(placeCalls(bad, p, n), primeCallOf(bad, p)), impl.ErrInvalid)
				for _, e := range numbers {
					number, code := impl.ResolventAt(bad, p, n, e, n)
					checkRefused(t, what, []weightCall{{"ResolventAt", number, code}}, impl.ErrInvalid)
				}
			}
		}
	}
}

// valueResults returns a text of what the functions of graphs return, and overwrites the lists.
func valueResults(g impl.Graph, p int64, u int64) string {
	rows, a := impl.EdgeRows(g)
	value, b := impl.EdgeValue(g, p, u)
	roots, c := impl.RootsModulo(g, p)
	trace, d := impl.TraceResolvent(g, p, u)
	number, e := impl.ResolventAt(g, p, u, 0, 0)
	product, f := impl.DegreeProduct(g)
	determinant, h := impl.EdgeDeterminant(g)
	followers, i := impl.FollowersOf(g, 0)
	text := fmt.Sprint(rows, value, roots, trace, number, product, determinant, followers, a, b, c, d, e, f, h, i)
	for _, list := range append(rows, roots, followers) {
		scribble(list)
	}
	return text
}

func TestValueResultsShareNoMemory(t *testing.T) {
	d := dice(95)
	for _, sample := range zetaGraphs(t) {
		g := roomyGraph(sample)
		before := wholeRows(g.Edges)
		p := valuePrimes()[d.below(26)]
		u := d.below(p)
		results := valueResults(g, p, u)
		same(t, fmt.Sprint("results of ", sample), valueResults(g, p, u), results)
		same(t, fmt.Sprint("memory of ", sample), wholeRows(g.Edges), before)
		rows, _ := impl.EdgeRows(g)
		ownRows(t, fmt.Sprint("EdgeRows of ", sample), rows)
	}
}
