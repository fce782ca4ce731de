package tests

import (
	"fmt"
	"math"
	"math/bits"
	"slices"
	"testing"

	"loop.example/g01298/impl"
)

// prime is the modulus in which determinants are compared; the numbers of polynomials are less than
// half of it.
const prime = 1<<61 - 1

// residue returns the rest of a number.
func residue(n int64) uint64 {
	if n < 0 {
		return prime - uint64(-n)%prime
	}
	return uint64(n) % prime
}

// timesRest returns the rest of a product.
func timesRest(a uint64, b uint64) uint64 {
	high, low := bits.Mul64(a, b)
	return bits.Rem64(high, low, prime)
}

// powerRest returns the rest of a power.
func powerRest(a uint64, exponent uint64) uint64 {
	power := uint64(1)
	for ; exponent > 0; exponent >>= 1 {
		if exponent&1 == 1 {
			power = timesRest(power, a)
		}
		a = timesRest(a, a)
	}
	return power
}

// determinantRest returns the rest of a determinant, by elimination.
func determinantRest(rows [][]int64) uint64 {
	var m [][]uint64
	for _, row := range rows {
		var rests []uint64
		for _, n := range row {
			rests = append(rests, residue(n))
		}
		m = append(m, rests)
	}
	determinant := uint64(1)
	for c := range m {
		r := slices.IndexFunc(m[c:], func(row []uint64) bool { return row[c] != 0 })
		if r < 0 {
			return 0
		}
		if r > 0 {
			m[c], m[c+r] = m[c+r], m[c]
			determinant = (prime - determinant) % prime
		}
		determinant = timesRest(determinant, m[c][c])
		inverse := powerRest(m[c][c], prime-2)
		for i := c + 1; i < len(m); i++ {
			factor := timesRest(m[i][c], inverse)
			for j := c; j < len(m); j++ {
				m[i][j] = (m[i][j] + prime - timesRest(factor, m[c][j])) % prime
			}
		}
	}
	return determinant
}

// valueRest returns the rest of the value of a polynomial at u.
func valueRest(f []int64, u int64) uint64 {
	value := uint64(0)
	for k := len(f) - 1; k >= 0; k-- {
		value = (timesRest(value, residue(u)) + residue(f[k])) % prime
	}
	return value
}

// sameDeterminant compares a polynomial with the determinants of the rows at more places than its
// degree can be.
func sameDeterminant(t *testing.T, what string, f []int64, degree int, rowsAt func(int64) [][]int64) {
	t.Helper()
	if !impl.IsWhole(f) || len(f) > degree+1 {
		t.Errorf("%s: %v is no polynomial of a degree of at most %d", what, f, degree)
	}
	for u := int64(0); u <= int64(degree); u++ {
		if valueRest(f, u) != determinantRest(rowsAt(u)) {
			t.Errorf("%s: %v is wrong at %d", what, f, u)
		}
	}
}

// squareRows returns n rows of n zeros.
func squareRows(n int) [][]int64 {
	rows := make([][]int64, n)
	for i := range rows {
		rows[i] = make([]int64, n)
	}
	return rows
}

// follows reports whether a directed edge begins where another one ends, and is not its reverse.
func follows(list [][2]int64, before int64, behind int64) bool {
	return list[before][1] == list[behind][0] && !(before/2 == behind/2 && before != behind)
}

// edgeMatrix returns the rows of the edge matrix.
func edgeMatrix(g impl.Graph) [][]int64 {
	list := directedEdges(g)
	rows := squareRows(len(list))
	for e := range rows {
		for f := range rows {
			if follows(list, int64(e), int64(f)) {
				rows[e][f] = 1
			}
		}
	}
	return rows
}

// zetaGraphs returns the sample graphs, and some that chapter 2 names or that need most steps.
func zetaGraphs(t *testing.T) []impl.Graph {
	graphs := sampleGraphs()
	for _, text := range []string{
		"8:", "8:0-1,1-2,2-3,3-4,4-5,5-6,6-7", "8:7-6,6-5,5-4,4-3,3-2,2-1,1-0", "8:0-1,2-3,4-5,6-7",
		"4:0-1,1-2,2-0,2-3", "4:0-1,1-2,2-3,3-1", "5:4-3,3-2,2-1,1-0,0-0", "6:0-1,1-2,2-0,3-4,4-5,5-3",
		"8:0-1,1-2,2-3,3-4,4-5,5-6,6-7,7-0,0-4,2-6", "1:0-0,0-0,0-0,0-0,0-0,0-0,0-0,0-0,0-0,0-0",
		"2:0-1,0-1,0-1,0-1,0-1,0-1,0-1,0-1,0-1,0-1", "3:0-1,0-1,0-2,0-2,1-2,1-2,0-0,1-1,2-2",
	} {
		graphs = append(graphs, parsed(t, text))
	}
	return graphs
}

func TestEdgeMatrices(t *testing.T) {
	for _, g := range zetaGraphs(t) {
		rows, code := impl.EdgeMatrix(g)
		sameCode(t, "EdgeMatrix", code, impl.ErrNone)
		same(t, fmt.Sprint("edge matrix of ", g), rows, edgeMatrix(g))
	}
	for text, want := range map[string][][]int64{
		"1:":        {},
		"1:0-0":     {{1, 0}, {0, 1}},
		"2:0-1":     {{0, 0}, {0, 0}},
		"2:0-1,0-1": {{0, 0, 0, 1}, {0, 0, 1, 0}, {0, 1, 0, 0}, {1, 0, 0, 0}},
		"1:0-0,0-0": {{1, 0, 1, 1}, {0, 1, 1, 1}, {1, 1, 1, 0}, {1, 1, 0, 1}},
	} {
		rows, _ := impl.EdgeMatrix(parsed(t, text))
		same(t, "edge matrix of "+text, rows, want)
	}
}

func TestReciprocalsAreDeterminantsOfEdgeMatrices(t *testing.T) {
	for _, g := range zetaGraphs(t) {
		matrix := edgeMatrix(g)
		reciprocal, code := impl.ReciprocalOf(g)
		sameCode(t, "ReciprocalOf", code, impl.ErrNone)
		sameDeterminant(t, fmt.Sprint("reciprocal of ", g), reciprocal, len(matrix), func(u int64) [][]int64 {
			rows := squareRows(len(matrix))
			for i := range rows {
				for j := range rows {
					rows[i][j] = -u * matrix[i][j]
				}
				rows[i][i]++
			}
			return rows
		})
	}
}

func TestVertexFactorsAreDeterminantsByVertices(t *testing.T) {
	for _, g := range zetaGraphs(t) {
		factor, code := impl.VertexFactor(g)
		sameCode(t, "VertexFactor", code, impl.ErrNone)
		what := fmt.Sprint("vertex factor of ", g)
		sameDeterminant(t, what, factor, 2*int(g.Size), func(u int64) [][]int64 {
			rows := squareRows(int(g.Size))
			for i := range rows {
				rows[i][i] = 1 - u*u
			}
			for _, e := range directedEdges(g) {
				rows[e[0]][e[1]] -= u
				rows[e[0]][e[0]] += u * u
			}
			return rows
		})
	}
	for text, want := range map[string][]int64{
		"1:": {1, 0, -1}, "2:": {1, 0, -2, 0, 1}, "1:0-0": {1, -2, 1}, "2:0-1": {1, 0, -1}, "1:0-0,0-0": {1, -4, 3},
	} {
		factor, _ := impl.VertexFactor(parsed(t, text))
		same(t, "vertex factor of "+text, factor, want)
	}
}

// powerOf returns f times itself as often as told.
func powerOf(t *testing.T, f []int64, exponent int) []int64 {
	t.Helper()
	power := []int64{1}
	for range exponent {
		power = productOf(t, power, f)
	}
	return power
}

// productOf returns a product that is within limits.
func productOf(t *testing.T, f []int64, g []int64) []int64 {
	t.Helper()
	product, ok := exactProduct(f, g)
	if !ok {
		t.Errorf("the product of %v and %v exceeds a limit", f, g)
	}
	return product
}

func TestReciprocalsByEdgesAreThoseByVertices(t *testing.T) {
	for _, g := range zetaGraphs(t) {
		reciprocal, _ := impl.ReciprocalOf(g)
		factor, _ := impl.VertexFactor(g)
		exponent := len(g.Edges) - int(g.Size)
		left := productOf(t, reciprocal, powerOf(t, []int64{1, 0, -1}, max(0, -exponent)))
		right := productOf(t, factor, powerOf(t, []int64{1, 0, -1}, max(0, exponent)))
		same(t, fmt.Sprint("reciprocal by vertices of ", g), left, right)
	}
}

func TestReciprocalsByName(t *testing.T) {
	for name, want := range map[string][]int64{
		"point": {1}, "edge": {1}, "star": {1}, "loop": {1, -2, 1}, "triangle": {1, 0, 0, -2, 0, 0, 1},
		"bouquet": {1, -4, 2, 4, -3}, "square": {1, 0, 0, 0, -2, 0, 0, 0, 1}, "pentagon": {1, 0, 0, 0, 0, -2, 0, 0, 0, 0, 1},
		"theta": {1, 0, -6, 0, 9, 0, -4}, "diamond": {1, 0, 0, -4, -2, 0, 4, 4, 1, 0, -4},
	} {
		g, _ := impl.NamedGraph(name)
		reciprocal, code := impl.ReciprocalOf(g)
		sameCode(t, name, code, impl.ErrNone)
		same(t, "reciprocal of "+name, reciprocal, want)
	}
}

// prunedByHand returns the pruned graph: it notes which vertices and edges remain, and numbers them
// at the end.
func prunedByHand(g impl.Graph) impl.Graph {
	gone := map[int64]bool{}
	left := map[int]bool{}
	degree := func(v int64) int {
		count := 0
		for k, e := range g.Edges {
			if left[k] {
				continue
			}
			for _, w := range e {
				if w == v {
					count++
				}
			}
		}
		return count
	}
	for v := int64(0); v < g.Size; v++ {
		if gone[v] || degree(v) != 1 {
			continue
		}
		gone[v] = true
		for k, e := range g.Edges {
			if e[0] == v || e[1] == v {
				left[k] = true
			}
		}
		v = -1
	}
	number, size := map[int64]int64{}, int64(0)
	for v := range g.Size {
		if !gone[v] {
			number[v] = size
			size++
		}
	}
	pruned := impl.Graph{Size: size}
	for k, e := range g.Edges {
		if !left[k] {
			pruned.Edges = append(pruned.Edges, []int64{number[e[0]], number[e[1]]})
		}
	}
	return pruned
}

func TestPrunedGraphsHaveTheSameReciprocal(t *testing.T) {
	for _, g := range zetaGraphs(t) {
		pruned, code := impl.PruneGraph(g)
		sameCode(t, "PruneGraph", code, impl.ErrNone)
		same(t, fmt.Sprint("pruned graph of ", g), pruned, prunedByHand(g))
		before, _ := impl.ReciprocalOf(g)
		after, _ := impl.ReciprocalOf(pruned)
		same(t, fmt.Sprint("reciprocal of pruned ", g), after, before)
		equal, code := impl.AreEqualZetas(g, pruned)
		sameCode(t, "AreEqualZetas", code, impl.ErrNone)
		same(t, fmt.Sprint("equal zetas of pruned ", g), equal, true)
	}
}

func TestPrunedGraphsByText(t *testing.T) {
	for text, want := range map[string]string{
		"1:":                                "1:",
		"8:":                                "8:",
		"2:0-1":                             "1:",
		"3:1-2":                             "2:",
		"4:0-1,0-2,0-3":                     "1:",
		"4:0-1,1-2,2-0,2-3":                 "3:0-1,1-2,2-0",
		"4:0-1,1-2,2-3,3-1":                 "3:0-1,1-2,2-0",
		"5:4-3,3-2,2-1,1-0,0-0":             "1:0-0",
		"5:0-1,1-2,2-3,3-4,4-4":             "1:0-0",
		"5:0-2,4-2,3-2,2-2,1-2":             "1:0-0",
		"6:0-1,1-2,2-0,3-4,4-5,5-3":         "6:0-1,1-2,2-0,3-4,4-5,5-3",
		"5:3-2,2-3,0-3,1-4":                 "3:1-0,0-1",
		"8:0-1,1-2,2-3,3-4,4-5,5-6,6-7":     "1:",
		"8:0-4,1-4,2-4,3-4,5-4,6-4,7-4":     "1:",
		"8:0-1,2-3,4-5,6-7":                 "4:",
		"4:2-0,0-0,1-3,3-3,0-3":             "2:0-0,1-1,0-1",
		"2:0-0,0-1,1-1":                     "2:0-0,0-1,1-1",
		"8:7-6,6-5,5-4,4-3,3-2,2-1,1-0":     "1:",
		"6:5-1,1-3,3-1,0-5,2-2,4-2":         "3:0-2,2-0,1-1",
		"8:0-7,1-7,2-7,3-7,4-7,5-7,6-7,0-6": "3:0-2,1-2,0-1",
	} {
		pruned, code := impl.PruneGraph(parsed(t, text))
		sameCode(t, text, code, impl.ErrNone)
		got, _ := impl.GraphText(pruned)
		same(t, "pruned "+text, got, want)
	}
}

func TestTreesHaveTheReciprocalOne(t *testing.T) {
	d := dice(21)
	for size := int64(1); size <= impl.MaxVertices; size++ {
		for range 20 {
			tree := impl.Graph{Size: size}
			for v := int64(1); v < size; v++ {
				tree.Edges = append(tree.Edges, [][]int64{{v, d.below(v)}, {d.below(v), v}}[d.below(2)])
			}
			reciprocal, _ := impl.ReciprocalOf(tree)
			same(t, fmt.Sprint("reciprocal of ", tree), reciprocal, []int64{1})
			order, _ := impl.OrderAtOne(tree)
			same(t, fmt.Sprint("order of ", tree), order, int64(0))
			counts, _ := impl.StraightCounts(tree, impl.MaxCount)
			same(t, fmt.Sprint("counts of ", tree), counts, filled(impl.MaxCount, 0))
			pruned, _ := impl.PruneGraph(tree)
			same(t, fmt.Sprint("pruned ", tree), pruned, impl.Graph{Size: 1})
		}
	}
}

// isStraight reports whether a list of directed edges is a closed walk, and straight.
func isStraight(g impl.Graph, walk []int64) bool {
	list := directedEdges(g)
	for i := range walk {
		if !follows(list, walk[(i+len(walk)-1)%len(walk)], walk[i]) {
			return false
		}
	}
	return len(walk) > 0
}

// straightWalks returns all straight closed walks of a length, and whether they are not too many to
// be listed.
func straightWalks(g impl.Graph, length int) ([][]int64, bool) {
	list := directedEdges(g)
	walks := [][]int64{nil}
	for range length {
		var longer [][]int64
		for _, walk := range walks {
			for e := range int64(len(list)) {
				if len(walk) == 0 || follows(list, walk[len(walk)-1], e) {
					longer = append(longer, append(slices.Clone(walk), e))
				}
			}
		}
		walks = longer
		if len(walks) > 2000 {
			return nil, false
		}
	}
	return slices.DeleteFunc(walks, func(walk []int64) bool { return !isStraight(g, walk) }), true
}

// primeCycles returns how many of the cycles of straight walks of one length are prime.
func primeCycles(walks [][]int64) int64 {
	cycles := map[string]bool{}
	for _, walk := range walks {
		least, repeated := walk, false
		for i := 1; i < len(walk); i++ {
			turned := slices.Concat(walk[i:], walk[:i])
			repeated = repeated || slices.Equal(turned, walk)
			if slices.Compare(turned, least) < 0 {
				least = turned
			}
		}
		if !repeated {
			cycles[fmt.Sprint(least)] = true
		}
	}
	return int64(len(cycles))
}

func TestCountsAreThoseOfWalks(t *testing.T) {
	for _, g := range zetaGraphs(t) {
		straight, code := impl.StraightCounts(g, impl.MaxCount)
		sameCode(t, "StraightCounts", code, impl.ErrNone)
		primes, code := impl.PrimeCounts(g, impl.MaxCount)
		sameCode(t, "PrimeCounts", code, impl.ErrNone)
		for k := range impl.MaxCount {
			walks, ok := straightWalks(g, k+1)
			if !ok {
				break
			}
			same(t, fmt.Sprint("straight walks of ", k+1, g), straight[k], int64(len(walks)))
			same(t, fmt.Sprint("prime cycles of ", k+1, g), primes[k], primeCycles(walks))
		}
	}
}

func TestStraightCountsAreThoseOfPrimeCycles(t *testing.T) {
	for _, g := range zetaGraphs(t) {
		matrix := edgeMatrix(g)
		power := matrix
		primes, _ := impl.PrimeCounts(g, impl.MaxCount)
		straight, _ := impl.StraightCounts(g, impl.MaxCount)
		for k := 1; k <= impl.MaxCount; k++ {
			trace, sum := int64(0), int64(0)
			for i := range power {
				trace += power[i][i]
			}
			for d := 1; d <= k; d++ {
				if k%d == 0 {
					sum += int64(d) * primes[d-1]
				}
			}
			same(t, fmt.Sprint("trace ", k, g), straight[k-1], trace)
			same(t, fmt.Sprint("sum of primes ", k, g), straight[k-1], sum)
			power = timesRows(power, matrix)
			fewer, _ := impl.StraightCounts(g, int64(k))
			same(t, fmt.Sprint("first straight counts ", k, g), fewer, straight[:k])
			fewer, _ = impl.PrimeCounts(g, int64(k))
			same(t, fmt.Sprint("first prime counts ", k, g), fewer, primes[:k])
		}
	}
}

func TestCountsByName(t *testing.T) {
	for _, c := range []struct {
		name     string
		straight []int64
		primes   []int64
	}{
		{"point", filled(10, 0), filled(10, 0)},
		{"loop", filled(10, 2), []int64{2, 0, 0, 0, 0, 0, 0, 0, 0, 0}},
		{"triangle", []int64{0, 0, 6, 0, 0, 6, 0, 0, 6, 0}, []int64{0, 0, 2, 0, 0, 0, 0, 0, 0, 0}},
		{"bouquet", []int64{4, 12, 28, 84, 244, 732, 2188, 6564, 19684, 59052},
			[]int64{4, 4, 8, 18, 48, 116, 312, 810, 2184, 5880}},
	} {
		g, _ := impl.NamedGraph(c.name)
		straight, _ := impl.StraightCounts(g, 10)
		same(t, "straight counts of "+c.name, straight, c.straight)
		primes, _ := impl.PrimeCounts(g, 10)
		same(t, "prime counts of "+c.name, primes, c.primes)
	}
}

func TestSeriesTimesReciprocalsAreOne(t *testing.T) {
	for _, g := range zetaGraphs(t) {
		reciprocal, _ := impl.ReciprocalOf(g)
		for k := range int64(impl.MaxCount + 1) {
			series, code := impl.ZetaSeries(g, k)
			sameCode(t, "ZetaSeries", code, impl.ErrNone)
			same(t, fmt.Sprint("length of series ", k, g), len(series), int(k)+1)
			for n := range series {
				sum := int64(0)
				for i := range n + 1 {
					sum += at(reciprocal, i) * series[n-i]
				}
				want := int64(0)
				if n == 0 {
					want = 1
				}
				same(t, fmt.Sprint("series times reciprocal at ", n, g), sum, want)
			}
		}
	}
}

func TestSeriesAreProductsOfPrimeCycles(t *testing.T) {
	for _, g := range zetaGraphs(t) {
		primes, _ := impl.PrimeCounts(g, impl.MaxCount)
		if slices.Max(primes) > 10000 {
			continue
		}
		want := make([]int64, impl.MaxCount+1)
		want[0] = 1
		for length := 1; length <= impl.MaxCount; length++ {
			for range primes[length-1] {
				for n := length; n <= impl.MaxCount; n++ {
					want[n] += want[n-length]
				}
			}
		}
		series, _ := impl.ZetaSeries(g, impl.MaxCount)
		same(t, fmt.Sprint("series of ", g), series, want)
	}
}

func TestGreatestNumbersAreExact(t *testing.T) {
	// Ten loops have the greatest numbers that there are: their reciprocal is
	// (1 - u)(1 - 19 u)(1 - u u)^9, and their series divides by these one by one.
	loops := impl.Graph{Size: 1}
	for range impl.MaxEdges {
		loops.Edges = append(loops.Edges, []int64{0, 0})
	}
	reciprocal, _ := impl.ReciprocalOf(loops)
	want := productOf(t, powerOf(t, []int64{1, 0, -1}, 9), []int64{1, -20, 19})
	same(t, "reciprocal of loops", reciprocal, want)
	list := make([]int64, impl.MaxCount+1)
	list[0] = 1
	for n := 1; n < len(list); n++ {
		list[n] = 19*list[n-1] + 1
	}
	for range 9 {
		for n := 2; n < len(list); n++ {
			list[n] += list[n-2]
		}
	}
	series, code := impl.ZetaSeries(loops, impl.MaxCount)
	sameCode(t, "series of loops", code, impl.ErrNone)
	same(t, "series of loops", series, list)
	if list[10] < 19*19*19*19*19*19*19*19*19*19 || list[10] > impl.MaxWhole {
		t.Errorf("the greatest number of the series is %d", list[10])
	}
	straight, _ := impl.StraightCounts(loops, impl.MaxCount)
	power := int64(1)
	for k := 1; k <= impl.MaxCount; k++ {
		power *= 19
		same(t, fmt.Sprint("straight counts of loops ", k), straight[k-1], power+1+9*int64(2-k%2*2))
	}
}

func TestSeriesOfRolledGraphsMeetNoLimit(t *testing.T) {
	d := dice(22)
	for range 400 {
		g := rolledGraph(&d, d.between(1, 3), impl.MaxEdges)
		series, code := impl.ZetaSeries(g, impl.MaxCount)
		sameCode(t, fmt.Sprint("series of ", g), code, impl.ErrNone)
		for n := 1; n < len(series); n++ {
			if series[n] < 0 || series[n] > impl.MaxWhole {
				t.Errorf("series of %v: %v", g, series)
			}
		}
	}
}

// multiplicity returns the order of a polynomial at 1: how many of its numbers at powers of u - 1
// are 0 at the beginning.
func multiplicity(f []int64) int64 {
	binomials := make([]int64, len(f))
	for j := range f {
		sum := int64(0)
		for k := range f {
			switch {
			case j == 0:
				binomials[k] = 1
			case k < j:
				binomials[k] = 0
			}
			sum += f[k] * binomials[k]
		}
		if sum != 0 {
			return int64(j)
		}
		next := make([]int64, len(f))
		for k := 1; k < len(f); k++ {
			next[k] = next[k-1] + binomials[k-1]
		}
		binomials = next
	}
	return -1
}

// orderByRanks returns the order at 1, as the ranks of the parts tell: a part of a rank of at least
// 2 has it as its order, one of the rank 1 has 2, and a tree has 0.
func orderByRanks(g impl.Graph) int64 {
	parts, _ := impl.PartsOf(g)
	order := int64(0)
	for _, part := range parts {
		rank := int64(1 - len(part))
		for _, e := range g.Edges {
			if slices.Contains(part, e[0]) {
				rank++
			}
		}
		if rank == 1 {
			rank = 2
		}
		order += rank
	}
	return order
}

func TestOrdersAtOne(t *testing.T) {
	for _, g := range zetaGraphs(t) {
		reciprocal, _ := impl.ReciprocalOf(g)
		order, code := impl.OrderAtOne(g)
		sameCode(t, "OrderAtOne", code, impl.ErrNone)
		same(t, fmt.Sprint("order at 1 of ", g), order, multiplicity(reciprocal))
		same(t, fmt.Sprint("order by ranks of ", g), order, orderByRanks(g))
	}
}

func TestReciprocalsBeginWithOneAndAreZeroAtOneForOrders(t *testing.T) {
	for _, g := range zetaGraphs(t) {
		reciprocal, _ := impl.ReciprocalOf(g)
		same(t, fmt.Sprint("first number of ", g), at(reciprocal, 0), int64(1))
		value, code := impl.ValueOfWhole(reciprocal, 1)
		sameCode(t, fmt.Sprint("value at 1 of ", g), code, impl.ErrNone)
		order, _ := impl.OrderAtOne(g)
		same(t, fmt.Sprint("zero at 1 of ", g), value == 0, order > 0)
	}
}

func TestEqualZetas(t *testing.T) {
	graphs := zetaGraphs(t)
	for i, g := range graphs {
		h := graphs[(i*7+3)%len(graphs)]
		first, _ := impl.ReciprocalOf(g)
		second, _ := impl.ReciprocalOf(h)
		equal, code := impl.AreEqualZetas(g, h)
		sameCode(t, "AreEqualZetas", code, impl.ErrNone)
		same(t, fmt.Sprint("equal zetas of ", g, h), equal, slices.Equal(first, second))
		renumbered := copyOfGraph(g)
		for _, e := range renumbered.Edges {
			e[0], e[1] = g.Size-1-e[1], g.Size-1-e[0]
		}
		slices.Reverse(renumbered.Edges)
		equal, _ = impl.AreEqualZetas(g, renumbered)
		same(t, fmt.Sprint("equal zetas of renumbered ", g), equal, true)
	}
	for _, c := range []struct {
		first  string
		second string
		want   bool
	}{
		{"1:", "8:", true}, {"1:", "2:0-1", true}, {"1:0-0", "1:", false}, {"1:0-0", "2:0-1,0-0", true},
		{"3:0-1,1-2,2-0", "4:0-1,1-2,2-3,3-0", false}, {"1:0-0,0-0", "2:0-0,1-1", false},
		{"2:0-0,0-1,1-1", "2:0-1,0-1,0-1", false}, {"3:0-1,1-2,2-0", "4:3-1,1-2,2-3,0-2", true},
	} {
		for _, texts := range [][2]string{{c.first, c.second}, {c.second, c.first}} {
			equal, code := impl.AreEqualZetas(parsed(t, texts[0]), parsed(t, texts[1]))
			sameCode(t, "AreEqualZetas", code, impl.ErrNone)
			same(t, fmt.Sprint("equal zetas of ", texts), equal, c.want)
		}
	}
}

func TestIsStraightOfAllShortLists(t *testing.T) {
	for _, text := range []string{"1:", "1:0-0", "1:0-0,0-0", "2:0-1", "2:0-1,0-1", "3:0-1,1-2,2-0", "2:0-0,0-1,1-1",
		"2:0-1,1-0,0-1", "4:0-1,0-2,0-3"} {
		g := parsed(t, text)
		lists := [][]int64{nil}
		for at := 0; at < len(lists); at++ {
			got, code := impl.IsStraight(g, lists[at])
			sameCode(t, text, code, impl.ErrNone)
			same(t, fmt.Sprint("IsStraight ", text, lists[at]), got, isStraight(g, lists[at]))
			if len(lists[at]) < 4 {
				for e := range int64(2 * len(g.Edges)) {
					lists = append(lists, append(slices.Clone(lists[at]), e))
				}
			}
		}
	}
}

func TestIsStraightOfWalks(t *testing.T) {
	d := dice(23)
	seen := map[bool]int{}
	for _, g := range zetaGraphs(t) {
		list := directedEdges(g)
		if len(list) == 0 {
			continue
		}
		for range 30 {
			walk := []int64{d.below(int64(len(list)))}
			for range d.below(20) {
				walk = append(walk, d.below(int64(len(list))))
				for range 20 {
					if follows(list, walk[len(walk)-2], walk[len(walk)-1]) {
						break
					}
					walk[len(walk)-1] = d.below(int64(len(list)))
				}
			}
			got, code := impl.IsStraight(g, walk)
			sameCode(t, "IsStraight", code, impl.ErrNone)
			same(t, fmt.Sprint("IsStraight ", g, walk), got, isStraight(g, walk))
			seen[got]++
		}
	}
	if seen[true] < 100 || seen[false] < 100 {
		t.Errorf("the walks are too much alike: %v", seen)
	}
}

func TestIsStraightAtItsEdges(t *testing.T) {
	square, loop := parsed(t, "4:0-1,1-2,2-3,3-0"), parsed(t, "1:0-0")
	var around []int64
	for range 5 {
		around = append(around, 0, 2, 4, 6)
	}
	for _, c := range []struct {
		g    impl.Graph
		walk []int64
		want bool
		code int64
	}{
		{square, around, true, impl.ErrNone},
		{square, around[:19], false, impl.ErrNone},
		{square, append(slices.Clone(around), 0), false, impl.ErrRange},
		{loop, filled(20, 0), true, impl.ErrNone},
		{loop, filled(21, 0), false, impl.ErrRange},
		{loop, filled(1000, 0), false, impl.ErrRange},
		{loop, filled(20, 1), true, impl.ErrNone},
		{loop, nil, false, impl.ErrNone},
		{loop, []int64{}, false, impl.ErrNone},
		{loop, []int64{0, 1}, false, impl.ErrNone},
		{loop, []int64{0, 0, 1}, false, impl.ErrNone},
		{loop, []int64{2}, false, impl.ErrRange},
		{square, []int64{0, 1}, false, impl.ErrNone},
		{square, []int64{0, 2, 4, 6, 7, 5, 3, 1}, false, impl.ErrNone},
		{square, []int64{1, 7, 5, 3}, true, impl.ErrNone},
		{square, []int64{0, 2, 4}, false, impl.ErrNone},
		{square, []int64{0, 4, 2, 6}, false, impl.ErrNone},
		{parsed(t, "1:"), nil, false, impl.ErrNone},
		{parsed(t, "1:"), []int64{0}, false, impl.ErrRange},
		{parsed(t, "4:0-1,1-2,2-0,2-3"), []int64{0, 2, 6, 7, 4}, false, impl.ErrNone},
		{parsed(t, "4:0-1,1-2,2-0,2-3"), []int64{7, 4, 0, 2, 6}, false, impl.ErrNone},
	} {
		got, code := impl.IsStraight(c.g, c.walk)
		sameCode(t, fmt.Sprint("IsStraight ", c.g, c.walk), code, c.code)
		same(t, fmt.Sprint("IsStraight ", c.g, c.walk), got, c.want)
	}
	for _, e := range outside(8) {
		for _, walk := range [][]int64{{e}, {e, 2, 4, 6}, {0, 2, 4, e}, {0, 0, e}, append(filled(30, 0), e)} {
			got, code := impl.IsStraight(square, walk)
			sameCode(t, fmt.Sprint("IsStraight ", walk), code, impl.ErrRange)
			same(t, fmt.Sprint("IsStraight ", walk), got, false)
		}
	}
}

// countFunctions returns the functions of a graph and a number, with the least one of its range.
func countFunctions() map[string]struct {
	f     func(impl.Graph, int64) ([]int64, int64)
	least int64
} {
	return map[string]struct {
		f     func(impl.Graph, int64) ([]int64, int64)
		least int64
	}{
		"StraightCounts": {impl.StraightCounts, 1},
		"PrimeCounts":    {impl.PrimeCounts, 1},
		"ZetaSeries":     {impl.ZetaSeries, 0},
	}
}

func TestZetaFunctionsRefuseNumbersOutOfRange(t *testing.T) {
	same(t, "MaxCount", int64(impl.MaxCount), int64(10))
	for _, g := range []impl.Graph{{Size: 1}, {Size: 8}, parsed(t, "3:0-1,1-2,2-0")} {
		for name, c := range countFunctions() {
			for k := int64(-2); k <= 13; k++ {
				list, code := c.f(g, k)
				if k < c.least || k > impl.MaxCount {
					sameCode(t, fmt.Sprint(name, k), code, impl.ErrRange)
					same(t, fmt.Sprint(name, k), list, []int64(nil))
				} else {
					sameCode(t, fmt.Sprint(name, k), code, impl.ErrNone)
					same(t, fmt.Sprint(name, k), len(list), int(k+1-c.least))
				}
			}
			for _, k := range []int64{math.MaxInt64, math.MinInt64, 1 << 32, -1 << 32, 1<<32 + 1} {
				list, code := c.f(g, k)
				sameCode(t, fmt.Sprint(name, k), code, impl.ErrRange)
				same(t, fmt.Sprint(name, k), list, []int64(nil))
			}
		}
	}
}

func TestZetaFunctionsRefuseWhatIsNoGraph(t *testing.T) {
	good := parsed(t, "3:0-1,1-2,2-0")
	for _, bad := range badGraphs() {
		what := fmt.Sprint(" of ", bad.Size, len(bad.Edges))
		rows, code := impl.EdgeMatrix(bad)
		sameCode(t, "EdgeMatrix"+what, code, impl.ErrInvalid)
		same(t, "EdgeMatrix"+what, rows, [][]int64(nil))
		for name, f := range map[string]func(impl.Graph) ([]int64, int64){
			"ReciprocalOf": impl.ReciprocalOf, "VertexFactor": impl.VertexFactor,
		} {
			list, code := f(bad)
			sameCode(t, name+what, code, impl.ErrInvalid)
			same(t, name+what, list, []int64(nil))
		}
		pruned, code := impl.PruneGraph(bad)
		sameCode(t, "PruneGraph"+what, code, impl.ErrInvalid)
		same(t, "PruneGraph"+what, pruned, impl.Graph{})
		// What is no graph is found before a number out of range.
		for name, c := range countFunctions() {
			for _, k := range []int64{-1, 0, 1, 10, 11, math.MaxInt64, math.MinInt64} {
				list, code := c.f(bad, k)
				sameCode(t, name+what, code, impl.ErrInvalid)
				same(t, name+what, list, []int64(nil))
			}
		}
		order, code := impl.OrderAtOne(bad)
		sameCode(t, "OrderAtOne"+what, code, impl.ErrInvalid)
		same(t, "OrderAtOne"+what, order, int64(0))
		for _, pair := range [][2]impl.Graph{{bad, good}, {good, bad}, {bad, bad}} {
			equal, code := impl.AreEqualZetas(pair[0], pair[1])
			sameCode(t, "AreEqualZetas"+what, code, impl.ErrInvalid)
			same(t, "AreEqualZetas"+what, equal, false)
		}
		for _, walk := range [][]int64{nil, {0}, {0, 2, 4}, {-1}, {math.MaxInt64}, {math.MinInt64}, filled(21, 0)} {
			straight, code := impl.IsStraight(bad, walk)
			sameCode(t, "IsStraight"+what, code, impl.ErrInvalid)
			same(t, "IsStraight"+what, straight, false)
		}
	}
}

func TestZetaResultsShareNoMemory(t *testing.T) {
	for _, sample := range zetaGraphs(t) {
		g := roomyGraph(sample)
		before := wholeRows(g.Edges)
		rows, _ := impl.EdgeMatrix(g)
		ownRows(t, "EdgeMatrix", rows)
		reciprocal, _ := impl.ReciprocalOf(g)
		scribble(reciprocal)
		factor, _ := impl.VertexFactor(g)
		scribble(factor)
		pruned, _ := impl.PruneGraph(g)
		ownRows(t, "PruneGraph", pruned.Edges)
		for _, c := range countFunctions() {
			list, _ := c.f(g, impl.MaxCount)
			scribble(list)
		}
		impl.OrderAtOne(g)
		impl.AreEqualZetas(g, g)
		same(t, fmt.Sprint("memory of ", sample), wholeRows(g.Edges), before)
	}
	square := roomyGraph(parsed(t, "4:0-1,1-2,2-3,3-0"))
	for _, list := range [][]int64{nil, {0, 2, 4, 6}, {0, 2}, {1, 0}, {9}, filled(21, 0)} {
		walk := roomy(list)
		before := wholeMemory(walk)
		impl.IsStraight(square, walk)
		same(t, fmt.Sprint("memory of ", list), wholeMemory(walk), before)
	}
}
