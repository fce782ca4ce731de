package tests

import (
	"fmt"
	"math"
	"slices"
	"testing"

	"loop.example/g01298/impl"
)

// isWalk reports whether a list is a walk of a length of at most impl.MaxLength.
func isWalk(g impl.Graph, list []int64) bool {
	directed := directedEdges(g)
	for i, e := range list {
		if e < 0 || e >= int64(len(directed)) || i > 0 && !follows(directed, list[i-1], e) {
			return false
		}
	}
	return len(list) > 0 && len(list) <= impl.MaxLength
}

// walksByLength returns all walks of each length up to impl.MaxLength, or up to where there are too
// many of them to be listed.
func walksByLength(g impl.Graph) [][][]int64 {
	edges := int64(2 * len(g.Edges))
	layers := [][][]int64{{nil}}
	for len(layers) <= impl.MaxLength {
		var longer [][]int64
		for _, walk := range layers[len(layers)-1] {
			for e := range edges {
				if list := append(slices.Clone(walk), e); isWalk(g, list) {
					longer = append(longer, list)
				}
			}
		}
		if len(longer) > 1000 {
			break
		}
		layers = append(layers, longer)
	}
	return layers
}

// chosen returns the lists for which a condition holds, in their order.
func chosen(lists [][]int64, holds func([]int64) bool) [][]int64 {
	var found [][]int64
	for _, list := range lists {
		if holds(list) {
			found = append(found, list)
		}
	}
	return found
}

// turnedBy returns a walk with its first edges put to its end.
func turnedBy(walk []int64, by int) []int64 { return slices.Concat(walk[by:], walk[:by]) }

// leastTurned returns the least of what a walk is turned to, and whether all of these are different.
func leastTurned(walk []int64) ([]int64, bool) {
	seen := map[string]bool{}
	least := walk
	for by := range walk {
		turned := turnedBy(walk, by)
		seen[fmt.Sprint(turned)] = true
		if slices.Compare(turned, least) < 0 {
			least = turned
		}
	}
	return least, len(seen) == len(walk)
}

// reversedWalk returns the inverses of the edges of a walk, in the reverse order.
func reversedWalk(walk []int64) []int64 {
	var reversed []int64
	for _, e := range slices.Backward(walk) {
		if e%2 == 0 {
			reversed = append(reversed, e+1)
		} else {
			reversed = append(reversed, e-1)
		}
	}
	return reversed
}

// checkList compares a list of walks with the one that is wanted, within the limit for as many as
// told.
func checkList(t *testing.T, what string, got [][]int64, code int64, want [][]int64, counted int) {
	t.Helper()
	if counted > impl.MaxWalks {
		sameCode(t, what, code, impl.ErrLimit)
		same(t, what, got, [][]int64(nil))
		return
	}
	sameCode(t, what, code, impl.ErrNone)
	same(t, what, got, want)
}

func TestListsOfWalks(t *testing.T) {
	for _, g := range zetaGraphs(t) {
		directed := directedEdges(g)
		for length, walks := range walksByLength(g)[1:] {
			k := int64(length + 1)
			matrix := squareRows(int(g.Size))
			for _, walk := range walks {
				matrix[directed[walk[0]][0]][directed[walk[k-1]][1]]++
			}
			rows, code := impl.WalkMatrix(g, k)
			sameCode(t, "WalkMatrix", code, impl.ErrNone)
			same(t, fmt.Sprint("walk matrix of ", k, g), rows, matrix)
			for v := range g.Size {
				want := chosen(walks, func(walk []int64) bool { return directed[walk[0]][0] == v })
				list, code := impl.WalksFrom(g, v, k)
				checkList(t, fmt.Sprint("walks from ", v, k, g), list, code, want, len(want))
			}
			closed := chosen(walks, func(walk []int64) bool { return isStraight(g, walk) })
			list, code := impl.ClosedWalks(g, k)
			checkList(t, fmt.Sprint("closed walks of ", k, g), list, code, closed, len(closed))
			primes := chosen(closed, func(walk []int64) bool {
				least, isPrime := leastTurned(walk)
				return isPrime && slices.Equal(walk, least)
			})
			list, code = impl.PrimeCycles(g, k)
			checkList(t, fmt.Sprint("prime cycles of ", k, g), list, code, primes, len(closed))
			number, _ := impl.ClosedNumber(g, k)
			same(t, fmt.Sprint("closed number of ", k, g), number, int64(len(closed)))
			number, _ = impl.PrimeNumber(g, k)
			same(t, fmt.Sprint("prime number of ", k, g), number, int64(len(primes)))
		}
	}
}

// checkWalk compares what is told about a list with what it is.
func checkWalk(t *testing.T, g impl.Graph, list []int64) {
	t.Helper()
	what := fmt.Sprint(" of ", g, list)
	yes, code := impl.IsWalk(g, list)
	sameCode(t, "IsWalk"+what, code, impl.ErrNone)
	same(t, "IsWalk"+what, yes, isWalk(g, list))
	wantCode, wantTurnCode := int64(impl.ErrRange), int64(impl.ErrRange)
	closed, prime := false, false
	var least, reversed []int64
	if isWalk(g, list) {
		wantCode, wantTurnCode = impl.ErrNone, impl.ErrState
		reversed = reversedWalk(list)
		if isStraight(g, list) {
			wantTurnCode = impl.ErrNone
			closed = true
			least, prime = leastTurned(list)
		}
	}
	yes, code = impl.IsClosed(g, list)
	sameCode(t, "IsClosed"+what, code, wantCode)
	same(t, "IsClosed"+what, yes, closed)
	yes, code = impl.IsPrimeWalk(g, list)
	sameCode(t, "IsPrimeWalk"+what, code, wantCode)
	same(t, "IsPrimeWalk"+what, yes, prime)
	turned, code := impl.LeastTurn(g, list)
	sameCode(t, "LeastTurn"+what, code, wantTurnCode)
	same(t, "LeastTurn"+what, turned, least)
	got, code := impl.ReverseWalk(g, list)
	sameCode(t, "ReverseWalk"+what, code, wantCode)
	same(t, "ReverseWalk"+what, got, reversed)
}

func TestAllShortLists(t *testing.T) {
	for _, text := range []string{"1:", "8:", "1:0-0", "1:0-0,0-0", "2:0-1", "2:0-1,1-0", "3:0-1,1-2,2-0",
		"2:0-0,0-1,1-1", "2:0-1,1-0,0-1", "4:0-1,0-2,0-3", "4:3-3,2-2"} {
		g := parsed(t, text)
		lists := [][]int64{nil}
		for at := 0; at < len(lists); at++ {
			checkWalk(t, g, lists[at])
			if len(lists[at]) < 4 {
				for e := int64(-1); e <= int64(2*len(g.Edges)); e++ {
					lists = append(lists, append(slices.Clone(lists[at]), e))
				}
			}
		}
	}
}

func TestWalksOfAllLengths(t *testing.T) {
	d := dice(31)
	closed := map[int]int{}
	for _, g := range zetaGraphs(t) {
		directed := directedEdges(g)
		if len(directed) == 0 {
			continue
		}
		for range 30 {
			walk := []int64{d.below(int64(len(directed)))}
			for range d.below(impl.MaxLength + 1) {
				last := walk[len(walk)-1]
				var next []int64
				for e := range int64(len(directed)) {
					if follows(directed, last, e) {
						next = append(next, e)
					}
				}
				if len(next) == 0 {
					break
				}
				walk = append(walk, next[d.below(int64(len(next)))])
			}
			checkWalk(t, g, walk)
			if isWalk(g, walk) && isStraight(g, walk) {
				closed[len(walk)]++
				for by := range walk {
					checkWalk(t, g, turnedBy(walk, by))
				}
				for doubled := walk; len(doubled) <= 2*impl.MaxLength; doubled = slices.Concat(doubled, walk) {
					checkWalk(t, g, doubled)
				}
			}
			walk[d.below(int64(len(walk)))] = d.below(int64(len(directed)))
			checkWalk(t, g, walk)
		}
	}
	for k := 1; k <= impl.MaxLength; k++ {
		if closed[k] < 10 {
			t.Errorf("there are too few closed walks of the length %d: %v", k, closed)
		}
	}
}

func TestReversedWalksAreWalks(t *testing.T) {
	for _, g := range zetaGraphs(t) {
		for _, walks := range walksByLength(g)[1:] {
			for i := 0; i < len(walks); i += 1 + len(walks)/20 {
				walk := walks[i]
				reversed, code := impl.ReverseWalk(g, walk)
				sameCode(t, "ReverseWalk", code, impl.ErrNone)
				yes, code := impl.IsWalk(g, reversed)
				sameCode(t, "IsWalk", code, impl.ErrNone)
				same(t, fmt.Sprint("walk reversed ", walk, g), yes, true)
				back, code := impl.ReverseWalk(g, reversed)
				sameCode(t, "ReverseWalk", code, impl.ErrNone)
				same(t, fmt.Sprint("reversed twice ", g), back, walk)
				for name, f := range map[string]func(impl.Graph, []int64) (bool, int64){
					"IsClosed": impl.IsClosed, "IsPrimeWalk": impl.IsPrimeWalk,
				} {
					first, _ := f(g, walk)
					second, _ := f(g, reversed)
					same(t, fmt.Sprint(name, " reversed ", walk, g), second, first)
				}
			}
		}
	}
}

// walkCounts returns for all pairs of directed edges the number of walks of the length k from the
// one to the other one.
func walkCounts(g impl.Graph, k int64) [][]int64 {
	matrix := edgeMatrix(g)
	power := squareRows(len(matrix))
	for e := range power {
		power[e][e] = 1
	}
	for range k - 1 {
		power = timesRows(power, matrix)
	}
	return power
}

func TestListsAreCountedByMatrices(t *testing.T) {
	for _, g := range zetaGraphs(t) {
		directed := directedEdges(g)
		for k := int64(1); k <= impl.MaxLength; k++ {
			want := squareRows(int(g.Size))
			for e, row := range walkCounts(g, k) {
				for f, n := range row {
					want[directed[e][0]][directed[f][1]] += n
				}
			}
			rows, code := impl.WalkMatrix(g, k)
			sameCode(t, "WalkMatrix", code, impl.ErrNone)
			same(t, fmt.Sprint("walk matrix of ", k, g), rows, want)
			for v := range g.Size {
				sum := int64(0)
				for _, n := range rows[v] {
					sum += n
				}
				what := fmt.Sprint("walks from ", v, k, g)
				list, code := impl.WalksFrom(g, v, k)
				if sum > impl.MaxWalks {
					sameCode(t, what, code, impl.ErrLimit)
					continue
				}
				sameCode(t, what, code, impl.ErrNone)
				same(t, what, int64(len(list)), sum)
				same(t, what, slices.IsSortedFunc(list, slices.Compare[[]int64]), true)
			}
		}
	}
}

func TestWalkMatricesByText(t *testing.T) {
	for _, g := range zetaGraphs(t) {
		unit := squareRows(int(g.Size))
		for v := range unit {
			unit[v][v] = 1
		}
		rows, code := impl.WalkMatrix(g, 0)
		sameCode(t, "WalkMatrix", code, impl.ErrNone)
		same(t, fmt.Sprint("walk matrix of 0 ", g), rows, unit)
		rows, _ = impl.WalkMatrix(g, 1)
		adjacency, _ := impl.AdjacencyOf(g)
		same(t, fmt.Sprint("walk matrix of 1 ", g), rows, adjacency)
	}
	for _, c := range []struct {
		text string
		k    int64
		want [][]int64
	}{
		{"3:0-1,1-2,2-0", 2, [][]int64{{0, 1, 1}, {1, 0, 1}, {1, 1, 0}}},
		{"3:0-1,1-2,2-0", 3, [][]int64{{2, 0, 0}, {0, 2, 0}, {0, 0, 2}}},
		{"1:", 12, [][]int64{{0}}},
		{"1:0-0", 12, [][]int64{{2}}},
		{"1:0-0,0-0", 2, [][]int64{{12}}},
		{"2:0-1", 2, [][]int64{{0, 0}, {0, 0}}},
		{"3:0-1,1-2", 2, [][]int64{{0, 0, 1}, {0, 0, 0}, {1, 0, 0}}},
		{"2:0-0,0-1", 2, [][]int64{{2, 2}, {2, 0}}},
		{"2:0-0,0-1", 3, [][]int64{{2, 2}, {2, 2}}},
	} {
		rows, code := impl.WalkMatrix(parsed(t, c.text), c.k)
		sameCode(t, c.text, code, impl.ErrNone)
		same(t, fmt.Sprint("walk matrix of ", c.text, c.k), rows, c.want)
	}
}

// moebius returns the number of Moebius of n.
func moebius(n int64) int64 {
	for d := int64(2); d <= n; d++ {
		if n%(d*d) == 0 {
			return 0
		}
	}
	for p := int64(2); p <= n; p++ {
		if n%p == 0 {
			return -moebius(n / p)
		}
	}
	return 1
}

func TestClosedNumbersAreSumsOfPrimeNumbersTimesDivisors(t *testing.T) {
	for _, g := range zetaGraphs(t) {
		closed, primes := []int64{0}, []int64{0}
		for k := int64(1); k <= impl.MaxLength; k++ {
			trace := int64(0)
			for e, row := range walkCounts(g, k+1) {
				trace += row[e]
			}
			number, code := impl.ClosedNumber(g, k)
			sameCode(t, "ClosedNumber", code, impl.ErrNone)
			same(t, fmt.Sprint("closed number of ", k, g), number, trace)
			closed = append(closed, number)
			number, code = impl.PrimeNumber(g, k)
			sameCode(t, "PrimeNumber", code, impl.ErrNone)
			primes = append(primes, number)
			sum, signed := int64(0), int64(0)
			for d := int64(1); d <= k; d++ {
				if k%d == 0 {
					sum += d * primes[d]
					signed += moebius(k/d) * closed[d]
				}
			}
			same(t, fmt.Sprint("sum of prime numbers ", k, g), sum, trace)
			same(t, fmt.Sprint("sum of closed numbers ", k, g), signed, k*number)
			// The lists are found quickly also where there are many walks, and few closed ones.
			walks, code := impl.ClosedWalks(g, k)
			cycles, cyclesCode := impl.PrimeCycles(g, k)
			if trace > impl.MaxWalks {
				sameCode(t, fmt.Sprint("ClosedWalks ", k, g), code, impl.ErrLimit)
				sameCode(t, fmt.Sprint("PrimeCycles ", k, g), cyclesCode, impl.ErrLimit)
				continue
			}
			sameCode(t, fmt.Sprint("ClosedWalks ", k, g), code, impl.ErrNone)
			sameCode(t, fmt.Sprint("PrimeCycles ", k, g), cyclesCode, impl.ErrNone)
			same(t, fmt.Sprint("closed walks of ", k, g), int64(len(walks)), trace)
			same(t, fmt.Sprint("prime cycles of ", k, g), int64(len(cycles)), number)
			checkCycles(t, g, walks, cycles)
		}
		counts, _ := impl.StraightCounts(g, impl.MaxCount)
		same(t, fmt.Sprint("straight counts of ", g), counts, closed[1:impl.MaxCount+1])
		counts, _ = impl.PrimeCounts(g, impl.MaxCount)
		same(t, fmt.Sprint("prime counts of ", g), counts, primes[1:impl.MaxCount+1])
	}
}

// checkCycles checks that prime cycles are told by the least ones of what they are turned to, in
// order, and that they are those of closed walks.
func checkCycles(t *testing.T, g impl.Graph, walks [][]int64, cycles [][]int64) {
	t.Helper()
	if !slices.IsSortedFunc(walks, slices.Compare[[]int64]) || !slices.IsSortedFunc(cycles, slices.Compare[[]int64]) {
		t.Errorf("lists of %v are not in order", g)
	}
	listed := map[string]bool{}
	for _, cycle := range cycles {
		listed[fmt.Sprint(cycle)] = true
		least, _ := impl.LeastTurn(g, cycle)
		same(t, fmt.Sprint("least turn of ", g), cycle, least)
	}
	for _, walk := range walks {
		least, code := impl.LeastTurn(g, walk)
		sameCode(t, "LeastTurn", code, impl.ErrNone)
		prime, _ := impl.IsPrimeWalk(g, walk)
		same(t, fmt.Sprint("cycle listed ", walk, g), listed[fmt.Sprint(least)], prime)
	}
}

func TestExactlyMaxWalks(t *testing.T) {
	same(t, "limits", []int64{impl.MaxLength, impl.MaxWalks}, []int64{12, 400})
	for _, c := range []struct {
		text string
		v    int64
		k    int64
		want int64
	}{
		{"3:1-0,0-0,1-0,2-2,2-0,1-0,1-0,2-2,1-0,0-0", 0, 3, 400},
		{"4:3-1,3-2,0-0,0-2,2-0,0-0,0-2,1-1,3-0,0-0", 0, 3, 401},
		{"5:3-0,2-3,0-0,1-4,0-1,4-0,3-4", 3, 7, 400},
		{"5:1-0,4-1,1-1,3-1,3-4,4-2,0-4", 3, 7, 401},
		{"4:1-2,2-2,0-3,1-0,3-2", 1, 11, 400},
	} {
		list, code := impl.WalksFrom(parsed(t, c.text), c.v, c.k)
		what := fmt.Sprint("walks from ", c.v, c.k, c.text)
		if c.want > impl.MaxWalks {
			sameCode(t, what, code, impl.ErrLimit)
			same(t, what, list, [][]int64(nil))
			continue
		}
		sameCode(t, what, code, impl.ErrNone)
		same(t, what, int64(len(list)), c.want)
	}
	// With each closed walk the reversed one is closed, so closed numbers are even.
	for _, c := range []struct {
		text string
		k    int64
		want int64
	}{
		{"3:0-1,2-0,2-0,0-2,2-1,2-0,2-2,2-0,0-0,0-2", 3, 400},
		{"3:1-0,1-1,1-0,1-2,0-0,0-0,1-0,1-2,0-1,1-0", 3, 402},
		{"4:2-3,0-2,1-2,0-2,1-2,0-3,0-3,3-2", 5, 400},
		{"4:0-2,1-3,1-1,0-2,0-2,3-1,2-1,0-1", 5, 402},
		{"5:2-4,4-0,1-1,0-2,0-2,3-3", 11, 400},
	} {
		g := parsed(t, c.text)
		number, _ := impl.ClosedNumber(g, c.k)
		same(t, "closed number "+c.text, number, c.want)
		walks, code := impl.ClosedWalks(g, c.k)
		cycles, cyclesCode := impl.PrimeCycles(g, c.k)
		if c.want > impl.MaxWalks {
			// There are fewer prime cycles, but the closed walks are counted.
			number, _ = impl.PrimeNumber(g, c.k)
			same(t, "few prime cycles of "+c.text, number <= impl.MaxWalks, true)
			sameCode(t, "ClosedWalks "+c.text, code, impl.ErrLimit)
			sameCode(t, "PrimeCycles "+c.text, cyclesCode, impl.ErrLimit)
			same(t, "ClosedWalks "+c.text, walks, [][]int64(nil))
			same(t, "PrimeCycles "+c.text, cycles, [][]int64(nil))
			continue
		}
		sameCode(t, "ClosedWalks "+c.text, code, impl.ErrNone)
		sameCode(t, "PrimeCycles "+c.text, cyclesCode, impl.ErrNone)
		same(t, "ClosedWalks "+c.text, int64(len(walks)), c.want)
		checkCycles(t, g, walks, cycles)
	}
}

// eulerByFactors returns the product of Euler factor by factor, and whether there are not too many.
func eulerByFactors(g impl.Graph, k int64) ([]int64, bool) {
	product := make([]int64, k+1)
	product[0] = 1
	for m := int64(1); m <= k; m++ {
		cycles, _ := impl.PrimeNumber(g, m)
		if cycles > 20000 {
			return nil, false
		}
		for range cycles {
			for n := k; n >= m; n-- {
				product[n] -= product[n-m]
			}
		}
	}
	return product, true
}

func TestEulerProducts(t *testing.T) {
	byFactors := 0
	for _, g := range zetaGraphs(t) {
		reciprocal, _ := impl.ReciprocalOf(g)
		for k := int64(0); k <= impl.MaxLength; k++ {
			product, code := impl.EulerProduct(g, k)
			sameCode(t, "EulerProduct", code, impl.ErrNone)
			want := make([]int64, k+1)
			for i := range want {
				want[i] = at(reciprocal, i)
			}
			same(t, fmt.Sprint("product of Euler and reciprocal ", k, g), product, want)
			if want, ok := eulerByFactors(g, k); ok {
				same(t, fmt.Sprint("product of Euler ", k, g), product, want)
				byFactors++
			}
		}
	}
	if byFactors < 1000 {
		t.Errorf("only %d products were compared factor by factor", byFactors)
	}
	for _, c := range []struct {
		text string
		k    int64
		want []int64
	}{
		{"1:", 0, []int64{1}},
		{"1:0-0,0-0", 0, []int64{1}},
		{"1:", 3, []int64{1, 0, 0, 0}},
		{"4:0-1,0-2,0-3", 12, []int64{1, 0, 0, 0, 0, 0, 0, 0, 0, 0, 0, 0, 0}},
		{"1:0-0", 1, []int64{1, -2}},
		{"1:0-0", 4, []int64{1, -2, 1, 0, 0}},
		{"1:0-0,0-0", 3, []int64{1, -4, 2, 4}},
		{"3:0-1,1-2,2-0", 2, []int64{1, 0, 0}},
		{"3:0-1,1-2,2-0", 7, []int64{1, 0, 0, -2, 0, 0, 1, 0}},
	} {
		product, code := impl.EulerProduct(parsed(t, c.text), c.k)
		sameCode(t, c.text, code, impl.ErrNone)
		same(t, fmt.Sprint("product of Euler of ", c.text, c.k), product, c.want)
	}
}

// girthByDeletion returns the least length of a way between the vertices of an edge without it, and
// 1 more, or 0 if there is none.
func girthByDeletion(g impl.Graph) int64 {
	girth := int64(0)
	for k, e := range g.Edges {
		far := map[int64]int64{e[0]: 0}
		for range g.Size {
			for i, f := range g.Edges {
				for _, way := range [][2]int64{{f[0], f[1]}, {f[1], f[0]}} {
					before, ok := far[way[0]]
					behind, known := far[way[1]]
					if i != k && ok && (!known || behind > before+1) {
						far[way[1]] = before + 1
					}
				}
			}
		}
		if d, ok := far[e[1]]; ok && (girth == 0 || d+1 < girth) {
			girth = d + 1
		}
	}
	return girth
}

func TestGirths(t *testing.T) {
	graphs := zetaGraphs(t)
	for size := int64(3); size <= impl.MaxVertices; size++ {
		ring := impl.Graph{Size: size}
		for v := range size {
			ring.Edges = append(ring.Edges, []int64{v, (v + 1) % size})
		}
		girth, _ := impl.GirthOf(ring)
		same(t, fmt.Sprint("girth of ", ring), girth, size)
		graphs = append(graphs, ring)
	}
	for _, g := range graphs {
		girth, code := impl.GirthOf(g)
		want := girthByDeletion(g)
		same(t, fmt.Sprint("girth of ", g), girth, want)
		if want == 0 {
			sameCode(t, fmt.Sprint("girth of ", g), code, impl.ErrNotFound)
			continue
		}
		sameCode(t, fmt.Sprint("girth of ", g), code, impl.ErrNone)
		for k := int64(1); k <= girth; k++ {
			number, _ := impl.ClosedNumber(g, k)
			same(t, fmt.Sprint("closed number and girth ", k, g), number > 0, k == girth)
		}
	}
	for name, want := range map[string]int64{"point": 0, "edge": 0, "loop": 1, "bouquet": 1, "theta": 2, "dumbbell": 1,
		"triangle": 3, "square": 4, "pentagon": 5, "star": 0, "diamond": 3, "tetrahedron": 3, "prism": 3, "houses": 4} {
		g, _ := impl.NamedGraph(name)
		girth, _ := impl.GirthOf(g)
		same(t, "girth of "+name, girth, want)
	}
}

func TestTreesHaveNoClosedWalk(t *testing.T) {
	d := dice(32)
	for size := int64(1); size <= impl.MaxVertices; size++ {
		for range 10 {
			tree := impl.Graph{Size: size}
			for v := int64(1); v < size; v++ {
				tree.Edges = append(tree.Edges, []int64{v, d.below(v)})
			}
			girth, code := impl.GirthOf(tree)
			sameCode(t, fmt.Sprint("girth of ", tree), code, impl.ErrNotFound)
			same(t, fmt.Sprint("girth of ", tree), girth, int64(0))
			for k := int64(1); k <= impl.MaxLength; k++ {
				walks, code := impl.ClosedWalks(tree, k)
				checkList(t, "closed walks of a tree", walks, code, nil, 0)
				walks, code = impl.PrimeCycles(tree, k)
				checkList(t, "prime cycles of a tree", walks, code, nil, 0)
				number, _ := impl.ClosedNumber(tree, k)
				same(t, "closed number of a tree", number, int64(0))
				number, _ = impl.PrimeNumber(tree, k)
				same(t, "prime number of a tree", number, int64(0))
			}
		}
	}
}

func TestGreatestNumbersOfWalks(t *testing.T) {
	loops := parsed(t, "1:0-0,0-0,0-0,0-0,0-0,0-0,0-0,0-0,0-0,0-0")
	power := int64(1)
	for k := int64(1); k <= impl.MaxLength; k++ {
		rows, code := impl.WalkMatrix(loops, k)
		sameCode(t, "walk matrix of loops", code, impl.ErrNone)
		same(t, fmt.Sprint("walk matrix of loops ", k), rows, [][]int64{{20 * power}})
		power *= 19
		number, code := impl.ClosedNumber(loops, k)
		sameCode(t, "closed number of loops", code, impl.ErrNone)
		same(t, fmt.Sprint("closed number of loops ", k), number, power+1+9*(2-k%2*2))
		walks, code := impl.ClosedWalks(loops, k)
		same(t, fmt.Sprint("closed walks of loops ", k), len(walks), map[int64]int{1: 20, 2: 380}[k])
		if k > 2 {
			sameCode(t, fmt.Sprint("closed walks of loops ", k), code, impl.ErrLimit)
		}
	}
	// 19^12 + 19 less 19^6 + 19, and less 19^4 + 19, and 19^2 + 19 more, all divided by 12.
	number, _ := impl.PrimeNumber(loops, 12)
	same(t, "prime number of loops", number, (power-47045881-130321+361)/12)
	parallel := parsed(t, "2:0-1,0-1,0-1,0-1,0-1,0-1,0-1,0-1,0-1,0-1")
	for k := int64(1); k <= impl.MaxLength; k += 2 {
		walks, code := impl.ClosedWalks(parallel, k)
		checkList(t, fmt.Sprint("closed walks of parallel edges ", k), walks, code, nil, 0)
		walks, code = impl.PrimeCycles(parallel, k)
		checkList(t, fmt.Sprint("prime cycles of parallel edges ", k), walks, code, nil, 0)
	}
	wide := parsed(t, "8:0-1,1-2,2-3,3-4,4-5,5-6,6-7,7-0,0-4,2-6")
	walks, code := impl.ClosedWalks(wide, 12)
	number, _ = impl.ClosedNumber(wide, 12)
	same(t, "closed walks of 8 vertices and 10 edges", int64(len(walks)), number)
	sameCode(t, "closed walks of 8 vertices and 10 edges", code, impl.ErrNone)
}

func TestWalksByText(t *testing.T) {
	loop, square := parsed(t, "1:0-0"), parsed(t, "4:0-1,1-2,2-3,3-0")
	for _, c := range []struct {
		g    impl.Graph
		list []int64
		want bool
	}{
		{loop, nil, false}, {loop, []int64{}, false}, {loop, []int64{0}, true}, {loop, []int64{1}, true},
		{loop, []int64{2}, false}, {loop, []int64{0, 1}, false}, {loop, []int64{1, 0}, false},
		{loop, filled(12, 0), true}, {loop, filled(13, 0), false}, {loop, filled(12, 1), true},
		{loop, filled(13, 1), false}, {loop, filled(1000, 0), false},
		{square, []int64{0, 2, 4, 6, 0, 2, 4, 6, 0, 2, 4, 6}, true},
		{square, []int64{0, 2, 4, 6, 0, 2, 4, 6, 0, 2, 4, 6, 0}, false},
		{square, []int64{7, 5, 3, 1}, true}, {square, []int64{0, 4}, false}, {square, []int64{0, 2, 3}, false},
		{parsed(t, "1:"), nil, false}, {parsed(t, "8:"), []int64{0}, false},
	} {
		got, code := impl.IsWalk(c.g, c.list)
		sameCode(t, fmt.Sprint("IsWalk ", c.list), code, impl.ErrNone)
		same(t, fmt.Sprint("IsWalk ", c.list), got, c.want)
		checkWalk(t, c.g, c.list)
	}
	for _, c := range []struct {
		g     impl.Graph
		walk  []int64
		least []int64
		prime bool
	}{
		{loop, []int64{1}, []int64{1}, true},
		{loop, []int64{1, 1}, []int64{1, 1}, false},
		{loop, filled(12, 0), filled(12, 0), false},
		{parsed(t, "1:0-0,0-0"), []int64{2, 0, 3, 0}, []int64{0, 2, 0, 3}, true},
		{parsed(t, "1:0-0,0-0"), []int64{2, 0, 2, 0}, []int64{0, 2, 0, 2}, false},
		{parsed(t, "1:0-0,0-0"), []int64{2, 0, 0, 2, 0, 0}, []int64{0, 0, 2, 0, 0, 2}, false},
		{square, []int64{4, 6, 0, 2}, []int64{0, 2, 4, 6}, true},
		{square, []int64{4, 6, 0, 2, 4, 6, 0, 2, 4, 6, 0, 2}, []int64{0, 2, 4, 6, 0, 2, 4, 6, 0, 2, 4, 6}, false},
	} {
		least, code := impl.LeastTurn(c.g, c.walk)
		sameCode(t, fmt.Sprint("LeastTurn ", c.walk), code, impl.ErrNone)
		same(t, fmt.Sprint("LeastTurn ", c.walk), least, c.least)
		prime, _ := impl.IsPrimeWalk(c.g, c.walk)
		same(t, fmt.Sprint("IsPrimeWalk ", c.walk), prime, c.prime)
		closed, _ := impl.IsClosed(c.g, c.walk)
		same(t, fmt.Sprint("IsClosed ", c.walk), closed, true)
	}
	// A walk may come back to its first vertex by the inverse of its first edge; it is not closed.
	tail := parsed(t, "4:0-1,1-2,2-0,2-3")
	closed, code := impl.IsClosed(tail, []int64{7, 4, 0, 2, 6})
	sameCode(t, "IsClosed of a tail", code, impl.ErrNone)
	same(t, "IsClosed of a tail", closed, false)
}

// listFunctions returns the functions of a graph and a list, their results as one value.
func listFunctions() map[string]func(impl.Graph, []int64) (any, int64) {
	return map[string]func(impl.Graph, []int64) (any, int64){
		"IsWalk":      func(g impl.Graph, l []int64) (any, int64) { x, c := impl.IsWalk(g, l); return x, c },
		"IsClosed":    func(g impl.Graph, l []int64) (any, int64) { x, c := impl.IsClosed(g, l); return x, c },
		"IsPrimeWalk": func(g impl.Graph, l []int64) (any, int64) { x, c := impl.IsPrimeWalk(g, l); return x, c },
		"LeastTurn":   func(g impl.Graph, l []int64) (any, int64) { x, c := impl.LeastTurn(g, l); return x, c },
		"ReverseWalk": func(g impl.Graph, l []int64) (any, int64) { x, c := impl.ReverseWalk(g, l); return x, c },
	}
}

// lengthFunction is a function of a graph and a length, with the least one of its range and the
// zero value of its result.
type lengthFunction struct {
	f     func(impl.Graph, int64) (any, int64)
	least int64
	zero  any
}

// lengthFunctions returns the functions of a graph and a length, WalksFrom for the vertex 0.
func lengthFunctions() map[string]lengthFunction {
	none := [][]int64(nil)
	return map[string]lengthFunction{
		"WalkMatrix":   {func(g impl.Graph, k int64) (any, int64) { x, c := impl.WalkMatrix(g, k); return x, c }, 0, none},
		"WalksFrom":    {func(g impl.Graph, k int64) (any, int64) { x, c := impl.WalksFrom(g, 0, k); return x, c }, 1, none},
		"ClosedWalks":  {func(g impl.Graph, k int64) (any, int64) { x, c := impl.ClosedWalks(g, k); return x, c }, 1, none},
		"PrimeCycles":  {func(g impl.Graph, k int64) (any, int64) { x, c := impl.PrimeCycles(g, k); return x, c }, 1, none},
		"ClosedNumber": {func(g impl.Graph, k int64) (any, int64) { x, c := impl.ClosedNumber(g, k); return x, c }, 1, int64(0)},
		"PrimeNumber":  {func(g impl.Graph, k int64) (any, int64) { x, c := impl.PrimeNumber(g, k); return x, c }, 1, int64(0)},
		"EulerProduct": {func(g impl.Graph, k int64) (any, int64) { x, c := impl.EulerProduct(g, k); return x, c }, 0, none},
	}
}

// lengthsOutside returns numbers that are no lengths, with the least length of a range.
func lengthsOutside(least int64) []int64 {
	return []int64{least - 1, impl.MaxLength + 1, -1, 100, 1 << 32, 1<<32 + 1, -1 << 32, math.MaxInt64, math.MinInt64}
}

func TestWalkFunctionsRefuseNumbersOutOfRange(t *testing.T) {
	loops := parsed(t, "1:0-0,0-0,0-0,0-0,0-0,0-0,0-0,0-0,0-0,0-0")
	for _, g := range []impl.Graph{{Size: 1}, {Size: 8}, parsed(t, "3:0-1,1-2,2-0"), loops} {
		for name, c := range lengthFunctions() {
			for k := c.least; k <= impl.MaxLength; k++ {
				_, code := c.f(g, k)
				same(t, fmt.Sprint(name, k, code), code == impl.ErrNone || code == impl.ErrLimit, true)
			}
			for _, k := range lengthsOutside(c.least) {
				got, code := c.f(g, k)
				sameCode(t, fmt.Sprint(name, k), code, impl.ErrRange)
				same(t, fmt.Sprint(name, k), got, c.zero)
			}
		}
		for _, v := range outside(g.Size) {
			for _, k := range append(lengthsOutside(1), 1, impl.MaxLength) {
				got, code := impl.WalksFrom(g, v, k)
				sameCode(t, fmt.Sprint("WalksFrom", v, k), code, impl.ErrRange)
				same(t, fmt.Sprint("WalksFrom", v, k), got, [][]int64(nil))
			}
		}
		for _, k := range lengthsOutside(1) {
			_, code := impl.WalksFrom(g, g.Size-1, k)
			sameCode(t, fmt.Sprint("WalksFrom", k), code, impl.ErrRange)
		}
	}
}

func TestWalkFunctionsRefuseListsThatAreNoWalks(t *testing.T) {
	square := parsed(t, "4:0-1,1-2,2-3,3-0")
	for _, e := range outside(8) {
		for _, list := range [][]int64{{e}, {e, 2, 4, 6}, {0, 2, 4, e}, {0, e, 4, 6}, {e, e}, append(filled(30, 0), e)} {
			checkWalk(t, square, list)
			checkWalk(t, parsed(t, "1:"), list)
			for name, f := range listFunctions() {
				got, code := f(square, list)
				if name == "IsWalk" {
					sameCode(t, fmt.Sprint(name, list), code, impl.ErrNone)
				} else {
					sameCode(t, fmt.Sprint(name, list), code, impl.ErrRange)
				}
				if yes, ok := got.(bool); ok {
					same(t, fmt.Sprint(name, list), yes, false)
				} else {
					same(t, fmt.Sprint(name, list), got, []int64(nil))
				}
			}
		}
	}
}

func TestWalkFunctionsRefuseWhatIsNoGraph(t *testing.T) {
	for _, bad := range badGraphs() {
		what := fmt.Sprint(" of ", bad.Size, len(bad.Edges))
		// What is no graph is found before a list or a number that is out of range.
		for name, f := range listFunctions() {
			for _, list := range [][]int64{nil, {0}, {0, 2, 4}, {-1}, {math.MaxInt64}, {math.MinInt64}, filled(13, 0)} {
				got, code := f(bad, list)
				sameCode(t, name+what, code, impl.ErrInvalid)
				if yes, ok := got.(bool); ok {
					same(t, name+what, yes, false)
				} else {
					same(t, name+what, got, []int64(nil))
				}
			}
		}
		for name, c := range lengthFunctions() {
			for _, k := range append(lengthsOutside(c.least), 0, 1, impl.MaxLength) {
				got, code := c.f(bad, k)
				sameCode(t, name+what, code, impl.ErrInvalid)
				same(t, name+what, got, c.zero)
			}
		}
		for _, v := range []int64{-1, 1, 8, math.MaxInt64, math.MinInt64} {
			_, code := impl.WalksFrom(bad, v, 1)
			sameCode(t, "WalksFrom"+what, code, impl.ErrInvalid)
		}
		girth, code := impl.GirthOf(bad)
		sameCode(t, "GirthOf"+what, code, impl.ErrInvalid)
		same(t, "GirthOf"+what, girth, int64(0))
	}
}

func TestWalkResultsShareNoMemory(t *testing.T) {
	for _, sample := range zetaGraphs(t) {
		g := roomyGraph(sample)
		before := wholeRows(g.Edges)
		for name, c := range lengthFunctions() {
			for _, k := range []int64{c.least, 1, 2, 3, 4, impl.MaxLength} {
				first, _ := c.f(g, k)
				text := fmt.Sprint(first)
				switch result := first.(type) {
				case []int64:
					scribble(result)
				case [][]int64:
					ownRows(t, name, result)
				}
				again, _ := c.f(g, k)
				same(t, fmt.Sprint(name, " again ", k, sample), fmt.Sprint(again), text)
			}
		}
		impl.GirthOf(g)
		same(t, fmt.Sprint("memory of ", sample), wholeRows(g.Edges), before)
	}
	square := roomyGraph(parsed(t, "4:0-1,1-2,2-3,3-0"))
	before := wholeRows(square.Edges)
	for _, list := range [][]int64{nil, {0, 2, 4, 6}, {0}, {2, 4, 6, 0, 2, 4, 6, 0}, {0, 2}, {1, 0}, {9}, filled(13, 0)} {
		walk := roomy(list)
		memory := wholeMemory(walk)
		for name, f := range listFunctions() {
			result, _ := f(square, walk)
			if numbers, ok := result.([]int64); ok {
				scribble(numbers)
			}
			same(t, fmt.Sprint("memory of ", name, list), wholeMemory(walk), memory)
		}
	}
	same(t, "memory of the square", wholeRows(square.Edges), before)
}
