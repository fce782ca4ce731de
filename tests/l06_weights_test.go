package tests

import (
	"fmt"
	"math"
	"slices"
	"testing"

	"loop.example/g01298/impl"
)

// weightPrimes returns primes of all sizes: the least ones, those next to the number of directed
// edges of great graphs, and the greatest ones.
func weightPrimes() []int64 { return []int64{2, 3, 5, 7, 19, 23, 101, 9973, 10007} }

// modulo returns the rest of a number, which is at least 0.
func modulo(n int64, p int64) int64 { return (n%p + p) % p }

// listModulo returns the rests of the numbers of a list.
func listModulo(list []int64, p int64) []int64 {
	var rests []int64
	for _, n := range list {
		rests = append(rests, modulo(n, p))
	}
	return rests
}

// rowsModulo returns the rests of the numbers in rows.
func rowsModulo(rows [][]int64, p int64) [][]int64 {
	var rests [][]int64
	for _, row := range rows {
		rests = append(rests, listModulo(row, p))
	}
	return rests
}

// productModulo returns the product of two polynomials, without zeros at its end.
func productModulo(f []int64, g []int64, p int64) []int64 {
	product := make([]int64, len(f)+len(g))
	for i := range f {
		for j := range g {
			product[i+j] = modulo(product[i+j]+modulo(f[i], p)*modulo(g[j], p), p)
		}
	}
	return cut(product)
}

// powerModulo returns a power of a polynomial.
func powerModulo(f []int64, exponent int, p int64) []int64 {
	power := []int64{1}
	for range exponent {
		power = productModulo(power, f, p)
	}
	return power
}

// numberPower returns the power of a number, the powers of 0 included: that of the exponent 0 is 1.
func numberPower(n int64, exponent int, p int64) int64 {
	power := int64(1)
	for range exponent {
		power = modulo(power*n, p)
	}
	return power
}

// valueModulo returns the value of a polynomial at u.
func valueModulo(f []int64, u int64, p int64) int64 {
	value := int64(0)
	for k := len(f) - 1; k >= 0; k-- {
		value = modulo(value*u+f[k], p)
	}
	return value
}

// inverseModulo returns the inverse of a number other than 0.
func inverseModulo(n int64, p int64) int64 {
	inverse := int64(1)
	for e := p - 2; e > 0; e >>= 1 {
		if e&1 == 1 {
			inverse = modulo(inverse*n, p)
		}
		n = modulo(n*n, p)
	}
	return inverse
}

// determinantModulo returns the determinant of rows, by elimination.
func determinantModulo(rows [][]int64, p int64) int64 {
	m := rowsModulo(rows, p)
	determinant := int64(1)
	for c := range m {
		r := slices.IndexFunc(m[c:], func(row []int64) bool { return row[c] != 0 })
		if r < 0 {
			return 0
		}
		if r > 0 {
			m[c], m[c+r] = m[c+r], m[c]
			determinant = modulo(-determinant, p)
		}
		determinant = modulo(determinant*m[c][c], p)
		inverse := inverseModulo(m[c][c], p)
		for i := c + 1; i < len(m); i++ {
			factor := modulo(m[i][c]*inverse, p)
			for j := c; j < len(m); j++ {
				m[i][j] = modulo(m[i][j]-factor*m[c][j], p)
			}
		}
	}
	return determinant
}

// almostTriangular returns similar rows in which all numbers more than one place below the diagonal
// are 0.
func almostTriangular(rows [][]int64, p int64) [][]int64 {
	m := rowsModulo(rows, p)
	for c := 0; c+2 < len(m); c++ {
		r := slices.IndexFunc(m[c+1:], func(row []int64) bool { return row[c] != 0 })
		if r < 0 {
			continue
		}
		m[c+1], m[c+1+r] = m[c+1+r], m[c+1]
		for _, row := range m {
			row[c+1], row[c+1+r] = row[c+1+r], row[c+1]
		}
		inverse := inverseModulo(m[c+1][c], p)
		for i := c + 2; i < len(m); i++ {
			factor := modulo(m[i][c]*inverse, p)
			for j := range m {
				m[i][j] = modulo(m[i][j]-factor*m[c+1][j], p)
			}
			for _, row := range m {
				row[c+1] = modulo(row[c+1]+factor*row[i], p)
			}
		}
	}
	return m
}

// reciprocalModulo returns the determinant of the unit matrix less u times rows, without zeros at
// its end: that of x times the unit matrix less almost triangular rows is expanded by its last
// column, and read backwards.
func reciprocalModulo(rows [][]int64, p int64) []int64 {
	m := almostTriangular(rows, p)
	list := [][]int64{{1}}
	for k := range m {
		next := productModulo(list[k], []int64{-m[k][k], 1}, p)
		below := int64(1)
		for i := k - 1; i >= 0; i-- {
			below = modulo(below*m[i+1][i], p)
			for j, n := range list[i] {
				next[j] = modulo(next[j]-below*m[i][k]%p*n, p)
			}
		}
		list = append(list, next)
	}
	last := list[len(m)]
	slices.Reverse(last)
	return cut(last)
}

// placesOf returns some places modulo p, all of them if they are few.
func placesOf(d *dice, p int64, most int) []int64 {
	var places []int64
	for u := range p {
		if u < 2 || u == p-1 || p <= int64(most) {
			places = append(places, u)
		}
	}
	for len(places) < most && int64(most) < p {
		places = append(places, d.below(p))
	}
	return places
}

// unitLess returns the unit matrix less u times rows.
func unitLess(rows [][]int64, u int64, p int64) [][]int64 {
	less := squareRows(len(rows))
	for i := range rows {
		for j := range rows {
			less[i][j] = modulo(-u*modulo(rows[i][j], p), p)
		}
		less[i][i]++
	}
	return less
}

// weightLists returns lists of weights for a graph: all 0, all 1, all p - 1, and rolled ones.
func weightLists(d *dice, g impl.Graph, p int64) [][]int64 {
	n := 2 * len(g.Edges)
	lists := [][]int64{filled(n, 0), filled(n, 1), filled(n, p-1), make([]int64, n), make([]int64, n), make([]int64, n)}
	for e := range n {
		lists[3][e] = d.below(p)
		lists[4][e] = []int64{0, 1, p - 1}[d.below(3)]
		lists[5][e] = max(1, d.below(p))
	}
	return lists
}

// weightedMatrix returns the rows of the weighted edge matrix.
func weightedMatrix(g impl.Graph, weights []int64) [][]int64 {
	rows := edgeMatrix(g)
	for e := range rows {
		for f := range rows {
			rows[e][f] *= weights[f]
		}
	}
	return rows
}

// checkNumbers checks a list of numbers in 0..p - 1 with ErrNone.
func checkNumbers(t *testing.T, what string, got []int64, code int64, want []int64) {
	t.Helper()
	if !slices.Equal(got, want) || code != impl.ErrNone {
		t.Errorf("%s: got %v and code %d, want %v", what, got, code, want)
	}
}

// checkReciprocal checks that a list is the determinant of the unit matrix less u times rows, number
// by number, and by its values at some places.
func checkReciprocal(t *testing.T, what string, list []int64, rows [][]int64, p int64, places []int64) {
	t.Helper()
	checkNumbers(t, what, list, impl.ErrNone, reciprocalModulo(rows, p))
	for _, u := range places {
		same(t, what, valueModulo(list, u, p), determinantModulo(unitLess(rows, u, p), p))
	}
}

func TestWeightsOfOneGiveReciprocalsModuloP(t *testing.T) {
	for _, g := range zetaGraphs(t) {
		reciprocal, code := impl.ReciprocalOf(g)
		sameCode(t, "ReciprocalOf", code, impl.ErrNone)
		for _, p := range weightPrimes() {
			what := fmt.Sprint(" of ", p, g)
			ones, code := impl.EqualWeights(p, g, 1)
			checkNumbers(t, "weights"+what, ones, code, filled(2*len(g.Edges), 1))
			list, code := impl.WeightedReciprocal(p, g, ones)
			checkNumbers(t, "reciprocal"+what, list, code, cut(listModulo(reciprocal, p)))
		}
	}
}

func TestWeightedReciprocalsAreDeterminants(t *testing.T) {
	d := dice(61)
	for _, g := range zetaGraphs(t) {
		for _, p := range []int64{2, 3, 5, weightPrimes()[d.below(9)], 10007} {
			for _, weights := range weightLists(&d, g, p) {
				what := fmt.Sprint("weighted reciprocal of ", p, g, weights)
				list, code := impl.WeightedReciprocal(p, g, weights)
				sameCode(t, what, code, impl.ErrNone)
				checkReciprocal(t, what, list, weightedMatrix(g, weights), p, placesOf(&d, p, 5))
			}
		}
	}
}

func TestWeightedReciprocalsByText(t *testing.T) {
	for _, c := range []struct {
		p       int64
		text    string
		weights []int64
		want    []int64
	}{
		{2, "1:", nil, []int64{1}},
		{10007, "8:", nil, []int64{1}},
		{7, "2:0-1", []int64{3, 4}, []int64{1}},
		{2, "1:0-0", []int64{1, 1}, []int64{1, 0, 1}},
		{2, "1:0-0", []int64{1, 0}, []int64{1, 1}},
		{2, "1:0-0", []int64{0, 0}, []int64{1}},
		{7, "1:0-0", []int64{3, 5}, []int64{1, 6, 1}},
		{10007, "1:0-0", []int64{10006, 10006}, []int64{1, 2, 1}},
		{9973, "1:0-0", []int64{9972, 1}, []int64{1, 0, 9972}},
		{7, "3:0-1,1-2,2-0", []int64{2, 2, 2, 2, 2, 2}, []int64{1, 0, 0, 5, 0, 0, 1}},
		{7, "3:0-1,1-2,2-0", []int64{1, 6, 2, 5, 3, 4}, []int64{1, 0, 0, 0, 0, 0, 6}},
		{7, "3:0-1,1-2,2-0", []int64{0, 6, 2, 5, 3, 4}, []int64{1, 0, 0, 6}},
		{2, "3:0-1,1-2,2-0", []int64{1, 1, 1, 1, 1, 1}, []int64{1, 0, 0, 0, 0, 0, 1}},
		{11, "2:0-1,1-0", []int64{2, 3, 4, 5}, []int64{1, 0, 10, 0, 10}},
		{3, "1:0-0,0-0", []int64{1, 1, 1, 1}, []int64{1, 2, 2, 1}},
	} {
		list, code := impl.WeightedReciprocal(c.p, parsed(t, c.text), c.weights)
		checkNumbers(t, fmt.Sprint("weighted reciprocal of ", c.p, c.text, c.weights), list, code, c.want)
	}
}

// walkWeight returns the product of the weights of the edges of a list.
func walkWeight(weights []int64, walk []int64, p int64) int64 {
	weight := int64(1)
	for _, e := range walk {
		weight = modulo(weight*weights[e], p)
	}
	return weight
}

func TestWeightedCountsAreSumsOverStraightWalks(t *testing.T) {
	d := dice(62)
	for _, g := range zetaGraphs(t) {
		p := weightPrimes()[d.below(9)]
		weights := weightLists(&d, g, p)[d.between(3, 5)]
		counts, code := impl.WeightedCounts(p, g, weights, 20)
		sameCode(t, "WeightedCounts", code, impl.ErrNone)
		for k := range 20 {
			walks, ok := straightWalks(g, k+1)
			if !ok {
				break
			}
			sum := int64(0)
			for _, walk := range walks {
				weight, code := impl.WeightOfWalk(p, g, weights, walk)
				checkNumber(t, fmt.Sprint("weight of ", p, g, weights, walk), weight, code, walkWeight(weights, walk, p))
				sum = modulo(sum+weight, p)
			}
			same(t, fmt.Sprint("weighted count of ", k+1, " of ", p, g, weights), counts[k], sum)
		}
	}
}

func TestWeightedCountsAreTraces(t *testing.T) {
	d := dice(63)
	for _, g := range zetaGraphs(t) {
		for _, p := range []int64{2, weightPrimes()[d.below(9)], 10007} {
			weights := weightLists(&d, g, p)[d.below(6)]
			what := fmt.Sprint("weighted counts of ", p, g, weights)
			rows := weightedMatrix(g, weights)
			var want []int64
			for power := rows; len(want) < 20; power = rowsModulo(timesRows(power, rows), p) {
				trace := int64(0)
				for e := range power {
					trace += power[e][e]
				}
				want = append(want, modulo(trace, p))
			}
			for _, k := range []int64{1, 2, d.between(3, 19), 20} {
				counts, code := impl.WeightedCounts(p, g, weights, k)
				checkNumbers(t, what, counts, code, want[:k])
			}
		}
	}
}

// checkSums checks that sums of powers and a reciprocal belong together: that k times the number of
// the reciprocal at u^k, and its numbers before times the sums, together are 0.
func checkSums(t *testing.T, what string, reciprocal []int64, sums []int64, p int64) {
	t.Helper()
	for k := 1; k <= len(sums); k++ {
		rest := modulo(int64(k)*at(reciprocal, k), p)
		for i := range k {
			rest = modulo(rest+at(reciprocal, i)*sums[k-i-1], p)
		}
		same(t, fmt.Sprint(what, " at ", k), rest, int64(0))
	}
}

func TestWeightedCountsAreThoseOfReciprocals(t *testing.T) {
	d := dice(64)
	for _, g := range zetaGraphs(t) {
		for _, p := range []int64{2, weightPrimes()[d.below(9)], 10007} {
			weights := weightLists(&d, g, p)[d.between(3, 5)]
			reciprocal, code := impl.WeightedReciprocal(p, g, weights)
			sameCode(t, "WeightedReciprocal", code, impl.ErrNone)
			counts, code := impl.WeightedCounts(p, g, weights, 20)
			sameCode(t, "WeightedCounts", code, impl.ErrNone)
			checkSums(t, fmt.Sprint("weighted counts of ", p, g, weights), reciprocal, counts, p)
		}
	}
}

func TestWeightedCountsOfEqualWeights(t *testing.T) {
	d := dice(65)
	for _, g := range zetaGraphs(t) {
		straight, code := impl.StraightCounts(g, impl.MaxCount)
		sameCode(t, "StraightCounts", code, impl.ErrNone)
		p := weightPrimes()[d.below(9)]
		for _, w := range []int64{0, 1, p - 1, d.below(p)} {
			weights, code := impl.EqualWeights(p, g, w)
			checkNumbers(t, fmt.Sprint("weights of ", p, g, w), weights, code, filled(2*len(g.Edges), w))
			counts, code := impl.WeightedCounts(p, g, weights, impl.MaxCount)
			var want []int64
			for k, count := range straight {
				want = append(want, modulo(count%p*numberPower(w, k+1, p), p))
			}
			checkNumbers(t, fmt.Sprint("weighted counts of ", p, g, w), counts, code, want)
		}
	}
}

// bartholdiMatrix returns the rows of the edge matrix with t added where a directed edge has its
// reverse.
func bartholdiMatrix(g impl.Graph, t int64) [][]int64 {
	rows := edgeMatrix(g)
	for k := range g.Edges {
		rows[2*k][2*k+1] += t
		rows[2*k+1][2*k] += t
	}
	return rows
}

// turnNumbers returns the numbers t to be tried for a prime.
func turnNumbers(d *dice, p int64) []int64 { return []int64{0, 1, p - 1, d.below(p)} }

func TestBartholdiReciprocalsAreDeterminants(t *testing.T) {
	d := dice(66)
	for _, g := range zetaGraphs(t) {
		for _, p := range []int64{2, 3, weightPrimes()[d.below(9)], 10007} {
			for _, number := range turnNumbers(&d, p) {
				what := fmt.Sprint("Bartholdi reciprocal of ", p, g, number)
				list, code := impl.BartholdiReciprocal(p, g, number)
				sameCode(t, what, code, impl.ErrNone)
				checkReciprocal(t, what, list, bartholdiMatrix(g, number), p, placesOf(&d, p, 5))
			}
		}
	}
}

func TestBartholdiReciprocalsOfZeroAreThoseWithoutTurns(t *testing.T) {
	for _, g := range zetaGraphs(t) {
		reciprocal, _ := impl.ReciprocalOf(g)
		factor, _ := impl.VertexFactor(g)
		for _, p := range weightPrimes() {
			what := fmt.Sprint(" of ", p, g)
			list, code := impl.BartholdiReciprocal(p, g, 0)
			checkNumbers(t, "reciprocal"+what, list, code, cut(listModulo(reciprocal, p)))
			list, code = impl.BartholdiFactor(p, g, 0)
			checkNumbers(t, "factor"+what, list, code, cut(listModulo(factor, p)))
		}
	}
}

func TestFactorsByVerticesTellReciprocals(t *testing.T) {
	d := dice(67)
	for _, g := range zetaGraphs(t) {
		exponent := len(g.Edges) - int(g.Size)
		for _, p := range weightPrimes() {
			for _, number := range turnNumbers(&d, p) {
				what := fmt.Sprint("factor of ", p, g, number)
				reciprocal, code := impl.BartholdiReciprocal(p, g, number)
				sameCode(t, what, code, impl.ErrNone)
				factor, code := impl.BartholdiFactor(p, g, number)
				sameCode(t, what, code, impl.ErrNone)
				w := modulo(1-number, p)
				base := cut([]int64{1, 0, modulo(-w*w, p)})
				left := productModulo(reciprocal, powerModulo(base, max(0, -exponent), p), p)
				right := productModulo(factor, powerModulo(base, max(0, exponent), p), p)
				same(t, what, left, right)
				same(t, what, factor, cut(listModulo(factor, p)))
				for _, u := range placesOf(&d, p, 4) {
					same(t, what, valueModulo(factor, u, p), vertexDeterminant(g, u, number, p))
				}
			}
		}
	}
}

// vertexDeterminant returns the determinant by vertices at u.
func vertexDeterminant(g impl.Graph, u int64, t int64, p int64) int64 {
	w := modulo(1-t, p)
	rows := squareRows(int(g.Size))
	for v := range rows {
		rows[v][v] = 1 - w*w%p*u%p*u%p
	}
	for _, e := range directedEdges(g) {
		rows[e[0]][e[1]] -= u
		rows[e[0]][e[0]] += w * u % p * u % p
	}
	return determinantModulo(rows, p)
}

func TestBartholdiByText(t *testing.T) {
	for _, c := range []struct {
		p                  int64
		text               string
		t                  int64
		reciprocal, factor []int64
	}{
		{7, "2:0-1", 1, []int64{1, 0, 6}, []int64{1, 0, 6}},
		{7, "2:0-1", 0, []int64{1}, []int64{1, 0, 6}},
		{7, "2:0-1", 3, []int64{1, 0, 5}, []int64{1, 0, 1, 0, 1}},
		{7, "2:0-1", 6, []int64{1, 0, 6}, []int64{1, 0, 2, 0, 4}},
		{2, "2:0-1", 1, []int64{1, 0, 1}, []int64{1, 0, 1}},
		{2, "1:", 0, []int64{1}, []int64{1, 0, 1}},
		{2, "1:", 1, []int64{1}, []int64{1}},
		{10007, "1:", 10006, []int64{1}, []int64{1, 0, 10003}},
		{10007, "2:", 0, []int64{1}, []int64{1, 0, 10005, 0, 1}},
		{9973, "8:", 1, []int64{1}, []int64{1}},
		{3, "3:", 0, []int64{1}, []int64{1, 0, 0, 0, 0, 0, 2}},
		{7, "1:0-0", 1, []int64{1, 5}, []int64{1, 5}},
		{7, "1:0-0", 2, []int64{1, 5, 4}, []int64{1, 5, 4}},
		{2, "1:0-0", 1, []int64{1}, []int64{1}},
		{2, "1:0-0", 0, []int64{1, 0, 1}, []int64{1, 0, 1}},
		{10007, "1:0-0", 10006, []int64{1, 10005}, []int64{1, 10005}},
		{7, "3:0-1,1-2,2-0", 1, []int64{1, 0, 4, 5}, []int64{1, 0, 4, 5}},
	} {
		what := fmt.Sprint(" of ", c.p, c.text, c.t)
		list, code := impl.BartholdiReciprocal(c.p, parsed(t, c.text), c.t)
		checkNumbers(t, "BartholdiReciprocal"+what, list, code, c.reciprocal)
		list, code = impl.BartholdiFactor(c.p, parsed(t, c.text), c.t)
		checkNumbers(t, "BartholdiFactor"+what, list, code, c.factor)
	}
}

func TestBartholdiReciprocalsTellTurnTables(t *testing.T) {
	d := dice(68)
	for _, g := range zetaGraphs(t) {
		table, code := impl.TurnTable(g, impl.MaxTurn)
		sameCode(t, "TurnTable", code, impl.ErrNone)
		p := weightPrimes()[d.below(9)]
		for _, number := range turnNumbers(&d, p) {
			reciprocal, code := impl.BartholdiReciprocal(p, g, number)
			sameCode(t, "BartholdiReciprocal", code, impl.ErrNone)
			var sums []int64
			for _, row := range table {
				sums = append(sums, valueModulo(listModulo(row, p), number, p))
			}
			checkSums(t, fmt.Sprint("Bartholdi reciprocal of ", p, g, number), reciprocal, sums, p)
		}
	}
}

// closedLists returns all closed walks of a length, with any turns, and whether they are not too
// many to be listed.
func closedLists(g impl.Graph, length int) ([][]int64, bool) {
	directed := directedEdges(g)
	walks := [][]int64{nil}
	for range length {
		var longer [][]int64
		for _, walk := range walks {
			for e := range int64(len(directed)) {
				if len(walk) == 0 || directed[walk[len(walk)-1]][1] == directed[e][0] {
					longer = append(longer, append(slices.Clone(walk), e))
				}
			}
		}
		walks = longer
		if len(walks) > 2000 {
			return nil, false
		}
	}
	return chosen(walks, func(walk []int64) bool { return isClosedWalk(g, walk) }), true
}

// turnsOf returns the number of turns of a closed walk: of places at which an edge comes behind
// itself, the other way round.
func turnsOf(walk []int64) int64 {
	turns := int64(0)
	before := walk[len(walk)-1]
	for _, e := range walk {
		if e != before && e/2 == before/2 {
			turns++
		}
		before = e
	}
	return turns
}

func TestTurnTablesCountClosedWalks(t *testing.T) {
	listed := 0
	for _, g := range zetaGraphs(t) {
		table, code := impl.TurnTable(g, impl.MaxTurn)
		sameCode(t, "TurnTable", code, impl.ErrNone)
		all, code := impl.AllWalks(g, impl.MaxTurn)
		sameCode(t, "AllWalks", code, impl.ErrNone)
		for k := range impl.MaxTurn {
			walks, ok := closedLists(g, k+1)
			if !ok {
				break
			}
			want := make([]int64, k+2)
			for _, walk := range walks {
				turns, code := impl.CountTurns(g, walk)
				checkNumber(t, fmt.Sprint("turns of ", g, walk), turns, code, turnsOf(walk))
				want[turns]++
			}
			listed += len(walks)
			same(t, fmt.Sprint("turn table of ", g, " at ", k+1), table[k], want)
			same(t, fmt.Sprint("all closed walks of ", g, " at ", k+1), all[k], int64(len(walks)))
		}
	}
	if listed < 20000 {
		t.Errorf("only %d closed walks were listed", listed)
	}
}

func TestTurnTablesAddUpToAllClosedWalks(t *testing.T) {
	same(t, "MaxTurn", int64(impl.MaxTurn), int64(8))
	for _, g := range zetaGraphs(t) {
		what := fmt.Sprint(" of ", g)
		adjacency, _ := impl.AdjacencyOf(g)
		straight, _ := impl.StraightCounts(g, impl.MaxTurn)
		table, code := impl.TurnTable(g, impl.MaxTurn)
		sameCode(t, "TurnTable"+what, code, impl.ErrNone)
		all, code := impl.AllWalks(g, impl.MaxTurn)
		sameCode(t, "AllWalks"+what, code, impl.ErrNone)
		same(t, "lengths"+what, []int64{int64(len(table)), int64(len(all))}, filled(2, impl.MaxTurn))
		power := adjacency
		for k, row := range table {
			same(t, "numbers"+what, len(row), k+2)
			sum, trace := int64(0), int64(0)
			for _, n := range row {
				sum += n
			}
			for v := range power {
				trace += power[v][v]
			}
			same(t, fmt.Sprint("table", what, " at ", k+1), sum, all[k])
			same(t, fmt.Sprint("all closed walks", what, " at ", k+1), all[k], trace)
			same(t, fmt.Sprint("first number", what, " at ", k+1), row[0], straight[k])
			power = timesRows(power, adjacency)
		}
		for k := int64(1); k <= impl.MaxTurn; k++ {
			shorter, code := impl.TurnTable(g, k)
			sameCode(t, "TurnTable"+what, code, impl.ErrNone)
			same(t, "shorter table"+what, shorter, table[:k])
			less, code := impl.AllWalks(g, k)
			checkNumbers(t, "shorter list"+what, less, code, all[:k])
		}
	}
}

func TestTurnTablesByText(t *testing.T) {
	for text, want := range map[string][][]int64{
		"1:":            {{0, 0}, {0, 0, 0}, {0, 0, 0, 0}, {0, 0, 0, 0, 0}},
		"8:":            {{0, 0}, {0, 0, 0}, {0, 0, 0, 0}, {0, 0, 0, 0, 0}},
		"1:0-0":         {{2, 0}, {2, 0, 2}, {2, 0, 6, 0}, {2, 0, 12, 0, 2}},
		"2:0-1":         {{0, 0}, {0, 0, 2}, {0, 0, 0, 0}, {0, 0, 0, 0, 2}},
		"2:0-1,0-1":     {{0, 0}, {4, 0, 4}, {0, 0, 0, 0}, {4, 0, 24, 0, 4}},
		"3:0-1,1-2":     {{0, 0}, {0, 0, 4}, {0, 0, 0, 0}, {0, 0, 4, 0, 4}},
		"3:0-1,1-2,2-0": {{0, 0}, {0, 0, 6}, {6, 0, 0, 0}, {0, 0, 12, 0, 6}},
		"4:0-0,2-3":     {{2, 0}, {2, 0, 4}, {2, 0, 6, 0}, {2, 0, 12, 0, 4}},
	} {
		table, code := impl.TurnTable(parsed(t, text), 4)
		sameCode(t, "TurnTable of "+text, code, impl.ErrNone)
		same(t, "TurnTable of "+text, table, want)
	}
	for text, want := range map[string][]int64{
		"1:": {0, 0, 0, 0, 0, 0, 0, 0}, "8:": {0, 0, 0, 0, 0, 0, 0, 0},
		"1:0-0": {2, 4, 8, 16, 32, 64, 128, 256}, "2:0-1": {0, 2, 0, 2, 0, 2, 0, 2},
		"3:0-1,1-2,2-0": {0, 6, 6, 18, 30, 66, 126, 258}, "2:0-1,0-1,0-1": {0, 18, 0, 162, 0, 1458, 0, 13122},
		"8:0-1,1-2,2-3,3-4,4-5,5-6,6-7,7-0,0-0,0-0": {4, 32, 88, 432, 1784, 8096, 35760, 160320},
	} {
		all, code := impl.AllWalks(parsed(t, text), impl.MaxTurn)
		checkNumbers(t, "AllWalks of "+text, all, code, want)
	}
}

// turnPower returns factor times (a + b y)^k, by its numbers at y^0 to y^k.
func turnPower(factor int64, a int64, b int64, k int) []int64 {
	power := []int64{factor}
	for range k {
		next := make([]int64, len(power)+1)
		for i, n := range power {
			next[i] += a * n
			next[i+1] += b * n
		}
		power = next
	}
	return power
}

// Loops at one vertex, and parallel edges, have as many closed walks as there can be. With y for a
// turn their matrices have few different eigenvalues.
func TestGreatestTurnTables(t *testing.T) {
	for m := int64(1); m <= impl.MaxEdges; m++ {
		loops := impl.Graph{Size: 1, Edges: slices.Repeat([][]int64{{0, 0}}, int(m))}
		parallel := impl.Graph{Size: 8, Edges: slices.Repeat([][]int64{{3, 7}}, int(m))}
		loopTable, code := impl.TurnTable(loops, impl.MaxTurn)
		sameCode(t, "TurnTable of loops", code, impl.ErrNone)
		parallelTable, code := impl.TurnTable(parallel, impl.MaxTurn)
		sameCode(t, "TurnTable of parallel edges", code, impl.ErrNone)
		for k := 1; k <= impl.MaxTurn; k++ {
			want, other := make([]int64, k+1), make([]int64, k+1)
			for i := range k + 1 {
				want[i] = turnPower(1, 2*m-1, 1, k)[i] + turnPower(m-1, -1, 1, k)[i] + turnPower(m, 1, -1, k)[i]
				if k%2 == 0 {
					other[i] = turnPower(2, m-1, 1, k)[i] + turnPower(2*(m-1), -1, 1, k)[i]
				}
			}
			same(t, fmt.Sprint("turn table of loops ", m, k), loopTable[k-1], want)
			same(t, fmt.Sprint("turn table of parallel edges ", m, k), parallelTable[k-1], other)
		}
	}
	all, code := impl.AllWalks(impl.Graph{Size: 1, Edges: slices.Repeat([][]int64{{0, 0}}, 10)}, 8)
	checkNumbers(t, "AllWalks of loops", all, code, []int64{20, 400, 8000, 160000, 3200000, 64000000, 1280000000, 25600000000})
}

// checkTurns compares what is told about a list with what it is, and reports whether it is a closed
// walk.
func checkTurns(t *testing.T, g impl.Graph, walk []int64) bool {
	t.Helper()
	turns, code := impl.CountTurns(g, walk)
	if !isClosedWalk(g, walk) {
		sameCode(t, fmt.Sprint("CountTurns of ", g, walk), code, impl.ErrRange)
		same(t, fmt.Sprint("CountTurns of ", g, walk), turns, int64(0))
		return false
	}
	checkNumber(t, fmt.Sprint("CountTurns of ", g, walk), turns, code, turnsOf(walk))
	return true
}

func TestTurnsOfAllShortLists(t *testing.T) {
	for _, text := range []string{"1:0-0", "1:0-0,0-0", "2:0-1", "2:0-1,1-0", "2:0-0,1-1", "3:0-1,1-2,2-0", "2:0-0,0-1,1-1",
		"4:3-3,2-2", "4:0-1,2-3"} {
		g := parsed(t, text)
		lists := [][]int64{nil}
		for at := 0; at < len(lists); at++ {
			if at > 0 {
				checkTurns(t, g, lists[at])
			}
			if len(lists[at]) == 4 {
				continue
			}
			for e := range int64(2 * len(g.Edges)) {
				lists = append(lists, append(slices.Clone(lists[at]), e))
			}
		}
	}
}

func TestTurnsOfWalksOfAllLengths(t *testing.T) {
	d := dice(69)
	closed := map[int]int{}
	for _, g := range zetaGraphs(t) {
		if len(g.Edges) == 0 {
			continue
		}
		for range 5 {
			walk := rolledWalk(&d, g, int(d.between(1, 20)))
			half := walk[:(len(walk)+1)/2]
			for _, list := range [][]int64{walk, slices.Concat(half, reversedWalk(half))} {
				if checkTurns(t, g, list) {
					closed[len(list)]++
				}
			}
		}
	}
	for n := 1; n <= 20; n++ {
		if closed[n] < 10 {
			t.Errorf("there are too few closed walks of the length %d: %v", n, closed)
		}
	}
}

func TestTurnsByText(t *testing.T) {
	for _, c := range []struct {
		text string
		walk []int64
		want int64
	}{
		{"2:0-1", []int64{0, 1}, 2},
		{"2:0-1", []int64{1, 0}, 2},
		{"2:0-1", []int64{0, 1, 0, 1}, 4},
		{"2:0-1", slices.Repeat([]int64{0, 1}, 10), 20},
		{"1:0-0", []int64{0}, 0},
		{"1:0-0", []int64{1}, 0},
		{"1:0-0", []int64{0, 0}, 0},
		{"1:0-0", []int64{0, 1}, 2},
		{"1:0-0", []int64{0, 0, 1}, 2},
		{"1:0-0", filled(20, 1), 0},
		{"2:0-1,0-1", []int64{0, 3}, 0},
		{"2:0-1,0-1", []int64{0, 3, 2, 1}, 2},
		{"3:0-1,1-2,2-0", []int64{0, 2, 4}, 0},
		{"3:0-1,1-2,2-0", []int64{0, 2, 3, 1}, 2},
		{"3:0-1,1-2,2-0", []int64{2, 3, 1, 0}, 2},
		{"3:0-1,1-2,2-0", []int64{0, 2, 4, 0, 2, 4}, 0},
		{"3:0-1,1-2,2-0", []int64{0, 2, 4, 5, 3, 1}, 2},
		{"3:0-1,1-2,2-0", []int64{4, 0, 2, 3, 1, 5}, 2},
	} {
		turns, code := impl.CountTurns(parsed(t, c.text), c.walk)
		checkNumber(t, fmt.Sprint("CountTurns of ", c.text, c.walk), turns, code, c.want)
	}
}

func TestWeightsOfLists(t *testing.T) {
	d := dice(70)
	for _, g := range zetaGraphs(t) {
		n := int64(2 * len(g.Edges))
		for _, p := range []int64{2, weightPrimes()[d.below(9)], 10007} {
			for _, weights := range weightLists(&d, g, p) {
				for _, length := range []int64{0, 1, d.between(2, 19), 20} {
					var list []int64
					for n > 0 && int64(len(list)) < length {
						list = append(list, d.below(n))
					}
					weight, code := impl.WeightOfWalk(p, g, weights, list)
					checkNumber(t, fmt.Sprint("WeightOfWalk of ", p, g, weights, list), weight, code, walkWeight(weights, list, p))
				}
			}
		}
	}
}

func TestWeightsOfListsByText(t *testing.T) {
	triangle := "3:0-1,1-2,2-0"
	for _, c := range []struct {
		p       int64
		text    string
		weights []int64
		list    []int64
		want    int64
	}{
		{2, "1:", nil, nil, 1},
		{10007, "8:", nil, []int64{}, 1},
		{2, triangle, filled(6, 0), nil, 1},
		{2, triangle, filled(6, 0), []int64{3}, 0},
		{2, triangle, filled(6, 1), []int64{3, 3, 3}, 1},
		{7, triangle, filled(6, 2), []int64{0, 2, 4}, 1},
		{7, triangle, []int64{1, 2, 3, 4, 5, 6}, []int64{5, 4, 3}, 1},
		{7, triangle, []int64{1, 2, 3, 4, 5, 6}, []int64{0, 0, 0, 5}, 6},
		{7, triangle, []int64{1, 2, 3, 4, 5, 6}, []int64{1, 2}, 6},
		{10007, triangle, filled(6, 10006), filled(20, 0), 1},
		{10007, triangle, filled(6, 10006), filled(19, 5), 10006},
		{9973, "1:0-0", []int64{0, 9972}, []int64{1}, 9972},
		{9973, "1:0-0", []int64{0, 9972}, []int64{1, 0}, 0},
	} {
		weight, code := impl.WeightOfWalk(c.p, parsed(t, c.text), c.weights, c.list)
		checkNumber(t, fmt.Sprint("WeightOfWalk of ", c.p, c.text, c.weights, c.list), weight, code, c.want)
	}
}

// weightCall is a call of a function of chapter 6 with its result.
type weightCall struct {
	name   string
	result any
	code   int64
}

// primeCalls returns calls of all functions with a prime, of which only the prime, the graph, the
// weights, and one number may not be as told: that is the weight, t, or the length.
func primeCalls(p int64, g impl.Graph, weights []int64, n int64) []weightCall {
	return slices.Concat(residueCalls(p, g, n), weightCalls(p, g, weights, 20))
}

// residueCalls returns calls of the functions with a number modulo p.
func residueCalls(p int64, g impl.Graph, n int64) []weightCall {
	var calls []weightCall
	for name, f := range map[string]func(int64, impl.Graph, int64) ([]int64, int64){
		"BartholdiReciprocal": impl.BartholdiReciprocal, "BartholdiFactor": impl.BartholdiFactor, "EqualWeights": impl.EqualWeights,
	} {
		list, code := f(p, g, n)
		calls = append(calls, weightCall{name, list, code})
	}
	return calls
}

// weightCalls returns calls of the functions with weights.
func weightCalls(p int64, g impl.Graph, weights []int64, k int64) []weightCall {
	list, first := impl.WeightedReciprocal(p, g, weights)
	counts, second := impl.WeightedCounts(p, g, weights, k)
	weight, third := impl.WeightOfWalk(p, g, weights, nil)
	return []weightCall{{"WeightedReciprocal", list, first}, {"WeightedCounts", counts, second}, {"WeightOfWalk", weight, third}}
}

// turnCalls returns calls of the functions with a length of turns.
func turnCalls(g impl.Graph, k int64) []weightCall {
	table, first := impl.TurnTable(g, k)
	all, second := impl.AllWalks(g, k)
	return []weightCall{{"TurnTable", table, first}, {"AllWalks", all, second}}
}

// checkRefused checks that all calls have a code, and zero values.
func checkRefused(t *testing.T, what string, calls []weightCall, want int64) {
	t.Helper()
	for _, c := range calls {
		sameCode(t, c.name+what, c.code, want)
		if n, ok := c.result.(int64); ok {
			same(t, c.name+what, n, int64(0))
		} else {
			same(t, c.name+what, fmt.Sprint(c.result), "[]")
		}
	}
}

// primesUpTo returns all primes up to a number, by crossing out.
func primesUpTo(n int64) map[int64]bool {
	primes := map[int64]bool{}
	for p := int64(2); p <= n; p++ {
		primes[p] = true
	}
	for p := int64(2); p <= n; p++ {
		for multiple := 2 * p; primes[p] && multiple <= n; multiple += p {
			primes[multiple] = false
		}
	}
	return primes
}

func TestPrimesOfWeights(t *testing.T) {
	primes := primesUpTo(10100)
	for _, p := range []int64{2, 9973, 10007, 10009} {
		same(t, fmt.Sprint("prime ", p), primes[p], true)
	}
	g := parsed(t, "1:0-0")
	point := parsed(t, "1:")
	for p := int64(-100); p <= 10100; p++ {
		what := fmt.Sprint(" of ", p)
		if p > 10007 || !primes[p] {
			checkRefused(t, what, primeCalls(p, g, filled(2, 0), 0), impl.ErrRange)
			checkRefused(t, what, primeCalls(p, point, nil, 0), impl.ErrRange)
			continue
		}
		for _, c := range primeCalls(p, g, []int64{1, p - 1}, p-1) {
			sameCode(t, c.name+what, c.code, impl.ErrNone)
		}
		for _, c := range primeCalls(p, point, nil, p-1) {
			sameCode(t, c.name+what, c.code, impl.ErrNone)
		}
	}
	for _, p := range []int64{math.MinInt64, math.MinInt64 + 1, math.MinInt64 + 7, math.MaxInt64, math.MaxInt64 - 24, math.MaxInt32,
		1 << 32, 1<<32 + 2, 1<<32 + 7, -1<<32 + 7, 1<<61 - 1, 10007 * 10007, 9973 * 10007, 65537, 10037} {
		checkRefused(t, fmt.Sprint(" of ", p), primeCalls(p, g, filled(2, 0), 0), impl.ErrRange)
		checkRefused(t, fmt.Sprint(" of ", p), primeCalls(p, g, filled(2, 1), 1), impl.ErrRange)
	}
}

func TestWeightFunctionsRefuseNumbersOutOfRange(t *testing.T) {
	for _, text := range []string{"1:", "8:", "1:0-0", "4:0-1,2-3", "3:0-1,1-2,2-0", "8:0-1,1-2,2-3,3-4,4-5,5-6,6-7,7-0,0-4,2-6"} {
		g := parsed(t, text)
		for _, p := range []int64{2, 3, 7, 9973, 10007} {
			for _, n := range outside(p) {
				checkRefused(t, fmt.Sprint(" of ", p, text, n), residueCalls(p, g, n), impl.ErrRange)
			}
			weights := filled(2*len(g.Edges), p-1)
			for k := int64(-3); k <= 24; k++ {
				counts, code := impl.WeightedCounts(p, g, weights, k)
				if 1 <= k && k <= 20 {
					sameCode(t, fmt.Sprint("WeightedCounts of ", p, text, k), code, impl.ErrNone)
					same(t, fmt.Sprint("WeightedCounts of ", p, text, k), int64(len(counts)), k)
				} else {
					checkRefused(t, fmt.Sprint(p, text, k), []weightCall{{"WeightedCounts", counts, code}}, impl.ErrRange)
				}
			}
			for _, k := range append(outside(21), 0, 1<<32+1) {
				counts, code := impl.WeightedCounts(p, g, weights, k)
				checkRefused(t, fmt.Sprint(p, text, k), []weightCall{{"WeightedCounts", counts, code}}, impl.ErrRange)
			}
		}
		for _, k := range append(outside(9), 0, 1<<32+1, math.MinInt64+1) {
			checkRefused(t, fmt.Sprint(" of ", text, k), turnCalls(g, k), impl.ErrRange)
		}
	}
}

func TestWeightFunctionsRefuseListsThatAreNoWeights(t *testing.T) {
	for _, text := range []string{"1:", "8:", "1:0-0", "4:0-1,2-3", "3:0-1,1-2,2-0", "8:0-1,1-2,2-3,3-4,4-5,5-6,6-7,7-0,0-4,2-6"} {
		g := parsed(t, text)
		for _, p := range []int64{2, 7, 10007} {
			numbers := []int64{p, p + 1, -1, -p, 2 * p, 1 << 32, 1<<32 + 1, math.MaxInt64, math.MinInt64, math.MinInt64 + 1}
			for _, list := range refusedLists(2*len(g.Edges), numbers) {
				checkRefused(t, fmt.Sprint(" of ", p, text, len(list)), weightCalls(p, g, list, 20), impl.ErrRange)
			}
			// A weight for each edge is too few, unless there are none.
			if len(g.Edges) > 0 {
				checkRefused(t, fmt.Sprint(" of ", p, text), weightCalls(p, g, filled(len(g.Edges), 1), 20), impl.ErrRange)
			}
		}
	}
}

// checkListCode checks that a list of directed edges is refused with a code.
func checkListCode(t *testing.T, g impl.Graph, list []int64, want int64) {
	t.Helper()
	weight, code := impl.WeightOfWalk(7, g, filled(2*len(g.Edges), 3), list)
	turns, other := impl.CountTurns(g, list)
	checkRefused(t, fmt.Sprint(" of ", g.Size, len(g.Edges), list), []weightCall{{"WeightOfWalk", weight, code}, {"CountTurns", turns, other}}, want)
}

func TestWeightFunctionsRefuseListsThatAreNoWalks(t *testing.T) {
	for _, text := range []string{"1:", "8:", "1:0-0", "2:0-1", "4:0-1,2-3", "3:0-1,1-2,2-0",
		"8:0-1,1-2,2-3,3-4,4-5,5-6,6-7,7-0,0-4,2-6"} {
		g := parsed(t, text)
		n := int64(2 * len(g.Edges))
		for _, e := range outside(n) {
			for _, list := range [][]int64{{e}, {e, e}, {0, e}, {e, 0}, {0, 1, e}, {0, e, 1}, append(filled(19, 0), e)} {
				checkListCode(t, g, list, impl.ErrRange)
			}
		}
		// The empty list is no closed walk, but has the product 1.
		turns, code := impl.CountTurns(g, nil)
		checkRefused(t, text, []weightCall{{"CountTurns", turns, code}}, impl.ErrRange)
		for e := range n {
			for _, length := range []int{22, 24, 1000} {
				checkListCode(t, g, slices.Repeat([]int64{e, e ^ 1}, length/2), impl.ErrRange)
			}
		}
	}
	loop := parsed(t, "1:0-0")
	for _, length := range []int{21, 22, 23, 400} {
		checkListCode(t, loop, filled(length, 0), impl.ErrRange)
	}
	for _, list := range [][]int64{{0}, {0, 2}, {0, 2, 5}, {0, 2, 4, 0}, {2, 0, 4}, {0, 0}, {0, 4}, {1, 2}} {
		same(t, fmt.Sprint("closed walk ", list), checkTurns(t, parsed(t, "3:0-1,1-2,2-0"), list), false)
	}
}

func TestWeightFunctionsRefuseWhatIsNoGraph(t *testing.T) {
	for _, bad := range badGraphs() {
		what := fmt.Sprint(" of ", bad.Size, len(bad.Edges))
		// What is no graph is found before a number or a list that is not as told.
		for _, p := range []int64{7, 2, 10007, 0, 1, -7, 9, 10009, math.MaxInt64, math.MinInt64} {
			for _, n := range []int64{0, 1, 20, 21, -1, math.MaxInt64, math.MinInt64} {
				checkRefused(t, what, residueCalls(p, bad, n), impl.ErrInvalid)
				for _, weights := range [][]int64{nil, filled(2*len(bad.Edges), 1), {math.MinInt64}, {7}} {
					checkRefused(t, what, weightCalls(p, bad, weights, n), impl.ErrInvalid)
				}
			}
		}
		for _, k := range []int64{1, 8, 0, 9, -1, math.MaxInt64, math.MinInt64} {
			checkRefused(t, what, turnCalls(bad, k), impl.ErrInvalid)
		}
		for _, list := range [][]int64{nil, {}, {0}, {0, 1}, {-1}, {math.MaxInt64}, {math.MinInt64}, filled(21, 0)} {
			checkListCode(t, bad, list, impl.ErrInvalid)
		}
	}
}

// weightResults returns a text of all that the functions of chapter 6 return for a graph, and
// overwrites the lists.
func weightResults(p int64, g impl.Graph, weights []int64) string {
	reciprocal, a := impl.WeightedReciprocal(p, g, weights)
	counts, b := impl.WeightedCounts(p, g, weights, 20)
	bartholdi, c := impl.BartholdiReciprocal(p, g, p-1)
	factor, d := impl.BartholdiFactor(p, g, p-1)
	table, e := impl.TurnTable(g, impl.MaxTurn)
	all, f := impl.AllWalks(g, impl.MaxTurn)
	equal, h := impl.EqualWeights(p, g, p-1)
	text := fmt.Sprint(reciprocal, counts, bartholdi, factor, table, all, equal, a, b, c, d, e, f, h)
	for _, list := range append(table, reciprocal, counts, bartholdi, factor, all, equal) {
		scribble(list)
	}
	return text
}

func TestWeightResultsShareNoMemory(t *testing.T) {
	d := dice(71)
	for _, sample := range zetaGraphs(t) {
		g := roomyGraph(sample)
		p := weightPrimes()[d.below(9)]
		weights := roomy(weightLists(&d, g, p)[3])
		before := wholeRows(g.Edges) + wholeMemory(weights)
		results := weightResults(p, g, weights)
		same(t, fmt.Sprint("results of ", sample), weightResults(p, g, weights), results)
		table, _ := impl.TurnTable(g, impl.MaxTurn)
		ownRows(t, fmt.Sprint("TurnTable of ", sample), table)
		walks := [][]int64{nil, {0}, {0, 1}, {1, 0, 1, 0}, {9, 9}, filled(21, 0), {math.MinInt64}}
		if len(g.Edges) > 0 {
			walks = append(walks, rolledWalk(&d, g, 20))
		}
		for _, list := range walks {
			walk := roomy(list)
			memory := wholeMemory(walk)
			impl.CountTurns(g, walk)
			impl.WeightOfWalk(p, g, weights, walk)
			same(t, fmt.Sprint("memory of ", list), wholeMemory(walk), memory)
		}
		same(t, fmt.Sprint("memory of ", sample), wholeRows(g.Edges)+wholeMemory(weights), before)
	}
	// Lists that are refused are not changed either.
	g := roomyGraph(parsed(t, "3:0-1,1-2,2-0"))
	for _, list := range refusedLists(6, []int64{7, -1, math.MinInt64}) {
		weights := roomy(list)
		before := wholeRows(g.Edges) + wholeMemory(weights)
		weightCalls(7, g, weights, 20)
		same(t, fmt.Sprint("memory of ", len(list)), wholeRows(g.Edges)+wholeMemory(weights), before)
	}
}
