package tests

import (
	"fmt"
	"math"
	"slices"
	"testing"

	"loop.example/g01298/impl"
)

// arrangements returns all permutations of 0 to s - 1.
func arrangements(s int64) [][]int64 {
	if s == 0 {
		return [][]int64{nil}
	}
	var longer [][]int64
	for _, list := range arrangements(s - 1) {
		for i := range len(list) + 1 {
			longer = append(longer, slices.Insert(slices.Clone(list), i, s-1))
		}
	}
	return longer
}

// allCovers returns all covers of a graph with s sheets.
func allCovers(g impl.Graph, s int64) []impl.Cover {
	turns := [][][]int64{nil}
	for range g.Edges {
		var longer [][][]int64
		for _, list := range turns {
			for _, turn := range arrangements(s) {
				longer = append(longer, append(slices.Clone(list), turn))
			}
		}
		turns = longer
	}
	var covers []impl.Cover
	for _, list := range turns {
		covers = append(covers, impl.Cover{Base: copyOfGraph(g), Sheets: s, Turns: copyOfRows(list)})
	}
	return covers
}

// rolledCover returns a cover with rolled permutations.
func rolledCover(d *dice, g impl.Graph, s int64) impl.Cover {
	c := impl.Cover{Base: copyOfGraph(g), Sheets: s}
	all := arrangements(s)
	for range g.Edges {
		c.Turns = append(c.Turns, all[d.below(int64(len(all)))])
	}
	return c
}

// sampleCovers returns all kinds of covers, also with derived graphs that exceed limits: all of
// the least graphs, but where there are too many of them, and rolled ones of the others.
func sampleCovers(t *testing.T) []impl.Cover {
	var covers []impl.Cover
	for _, g := range append(smallGraphs(1, 2), smallGraphs(2, 2)...) {
		for s := int64(1); s < impl.MaxSheets || s == impl.MaxSheets && len(g.Edges) < 2; s++ {
			covers = append(covers, allCovers(g, s)...)
		}
	}
	d := dice(41)
	for _, g := range zetaGraphs(t) {
		for s := int64(1); s <= impl.MaxSheets; s++ {
			covers = append(covers, rolledCover(&d, g, s), rolledCover(&d, g, s))
		}
	}
	return covers
}

// derivedByHand returns the derived graph of a cover, whether it is within limits or not.
func derivedByHand(c impl.Cover) impl.Graph {
	derived := impl.Graph{Size: c.Base.Size * c.Sheets}
	for k, e := range c.Base.Edges {
		for i := range c.Sheets {
			derived.Edges = append(derived.Edges, []int64{e[0]*c.Sheets + i, e[1]*c.Sheets + c.Turns[k][i]})
		}
	}
	return derived
}

// exceeds reports whether the derived graph of a cover exceeds a limit.
func exceeds(c impl.Cover) bool {
	return c.Base.Size*c.Sheets > 8 || int64(len(c.Base.Edges))*c.Sheets > 10
}

// signLists returns all lists of n signs.
func signLists(n int) [][]int64 {
	lists := [][]int64{nil}
	for range n {
		var longer [][]int64
		for _, list := range lists {
			longer = append(longer, append(slices.Clone(list), 1), append(slices.Clone(list), -1))
		}
		lists = longer
	}
	return lists
}

// rolledSigns returns n rolled signs.
func rolledSigns(d *dice, n int) []int64 {
	signs := make([]int64, n)
	for k := range signs {
		signs[k] = 1 - 2*d.below(2)
	}
	return signs
}

func TestIsCover(t *testing.T) {
	same(t, "limit", impl.MaxSheets, 4)
	for _, c := range sampleCovers(t) {
		same(t, fmt.Sprint("IsCover ", c), impl.IsCover(c), true)
	}
	for s := int64(1); s <= impl.MaxSheets; s++ {
		permutations := map[string]bool{}
		for _, turn := range arrangements(s) {
			permutations[fmt.Sprint(turn)] = true
		}
		lists := [][]int64{nil}
		for at := 0; at < len(lists); at++ {
			c := impl.Cover{Base: parsed(t, "1:0-0"), Sheets: s, Turns: [][]int64{lists[at]}}
			same(t, fmt.Sprint("IsCover ", c), impl.IsCover(c), permutations[fmt.Sprint(lists[at])])
			if int64(len(lists[at])) <= s {
				for n := int64(-1); n <= s; n++ {
					lists = append(lists, append(slices.Clone(lists[at]), n))
				}
			}
		}
	}
}

// badCovers returns values that are no covers.
func badCovers(t *testing.T) []impl.Cover {
	loop, path := parsed(t, "1:0-0"), parsed(t, "4:0-1,1-2,2-3")
	swap := []int64{1, 0}
	bad := []impl.Cover{
		{},
		{Base: loop},
		{Base: loop, Sheets: 1},
		{Base: loop, Sheets: 5, Turns: [][]int64{{0, 1, 2, 3, 4}}},
		{Base: loop, Sheets: 0, Turns: [][]int64{{}}},
		{Base: loop, Sheets: 1, Turns: [][]int64{{0}, {0}}},
		{Base: loop, Sheets: 2, Turns: make([][]int64, 1000)},
		{Base: loop, Sheets: 2, Turns: [][]int64{make([]int64, 1000)}},
		{Base: impl.Graph{Size: 1}, Sheets: 1, Turns: [][]int64{{0}}},
		{Base: impl.Graph{Size: 1}, Sheets: 1, Turns: [][]int64{nil}},
		{Base: path, Sheets: 2, Turns: [][]int64{swap, swap}},
		{Base: path, Sheets: 2, Turns: [][]int64{swap, swap, swap, swap}},
	}
	for _, s := range []int64{0, 5, -1, -2, 8, 1<<32 + 2, 1 << 32, math.MaxInt64, math.MinInt64} {
		bad = append(bad, impl.Cover{Base: impl.Graph{Size: 1}, Sheets: s}, impl.Cover{Base: loop, Sheets: s},
			impl.Cover{Base: loop, Sheets: s, Turns: [][]int64{swap}}, impl.Cover{Base: loop, Sheets: s, Turns: [][]int64{nil}},
			impl.Cover{Base: impl.Graph{Size: 8}, Sheets: s})
	}
	for _, list := range [][]int64{nil, {0}, {1}, {0, 0}, {1, 1}, {0, 1, 2}, {1, 0, 0}, {1, 2}, {2, 0}, {3, 0}, {2, 3}, {-1, 0},
		{0, -1}, {-1, 1}, {0, math.MaxInt64}, {math.MaxInt64, 1}, {math.MinInt64, 0}, {1, math.MinInt64}} {
		bad = append(bad, impl.Cover{Base: loop, Sheets: 2, Turns: [][]int64{list}})
		for k := range path.Edges {
			turns := [][]int64{swap, swap, swap}
			turns[k] = list
			bad = append(bad, impl.Cover{Base: path, Sheets: 2, Turns: turns})
		}
	}
	for _, g := range badGraphs() {
		bad = append(bad, impl.Cover{Base: g, Sheets: 1}, impl.Cover{Base: g, Sheets: 2, Turns: [][]int64{swap}})
		if len(g.Edges) < 20 {
			bad = append(bad, impl.Cover{Base: g, Sheets: 2, Turns: slices.Repeat([][]int64{swap}, len(g.Edges))})
		}
	}
	return bad
}

func TestDerivedGraphsHaveAsManyEdgesAsTheSheetsTell(t *testing.T) {
	for _, c := range sampleCovers(t) {
		derived, code := impl.DerivedGraph(c)
		what := fmt.Sprint("derived graph of ", c)
		if exceeds(c) {
			sameCode(t, what, code, impl.ErrLimit)
			same(t, what, derived, impl.Graph{})
			continue
		}
		sameCode(t, what, code, impl.ErrNone)
		same(t, what, derived, derivedByHand(c))
		same(t, what, derived.Size, c.Base.Size*c.Sheets)
		same(t, what, int64(len(derived.Edges)), int64(len(c.Base.Edges))*c.Sheets)
		below, _ := impl.DegreesOf(c.Base)
		above, _ := impl.DegreesOf(derived)
		for v, degree := range above {
			vertex, code := impl.ProjectVertex(c, int64(v))
			sameCode(t, what, code, impl.ErrNone)
			same(t, what, degree, below[vertex])
		}
		for k, e := range derived.Edges {
			first, _ := impl.ProjectVertex(c, e[0])
			second, _ := impl.ProjectVertex(c, e[1])
			same(t, what, []int64{first, second}, c.Base.Edges[int64(k)/c.Sheets])
		}
	}
}

func TestDerivedGraphsByText(t *testing.T) {
	for _, c := range []struct {
		base  string
		s     int64
		turns [][]int64
		want  string
	}{
		{"1:", 1, nil, "1:"},
		{"1:", 4, nil, "4:"},
		{"2:", 4, nil, "8:"},
		{"8:", 1, nil, "8:"},
		{"1:0-0", 1, [][]int64{{0}}, "1:0-0"},
		{"1:0-0", 2, [][]int64{{1, 0}}, "2:0-1,1-0"},
		{"1:0-0", 2, [][]int64{{0, 1}}, "2:0-0,1-1"},
		{"1:0-0", 3, [][]int64{{1, 2, 0}}, "3:0-1,1-2,2-0"},
		{"1:0-0", 4, [][]int64{{3, 0, 1, 2}}, "4:0-3,1-0,2-1,3-2"},
		{"1:0-0", 4, [][]int64{{1, 0, 2, 3}}, "4:0-1,1-0,2-2,3-3"},
		{"2:1-0", 3, [][]int64{{2, 0, 1}}, "6:3-2,4-0,5-1"},
		{"2:0-1,1-0", 2, [][]int64{{0, 1}, {1, 0}}, "4:0-2,1-3,2-1,3-0"},
		{"3:2-2", 2, [][]int64{{1, 0}}, "6:4-5,5-4"},
		// Exactly MaxVertices vertices and MaxEdges edges.
		{"4:0-1,1-2,2-3,3-0,0-0", 2, [][]int64{{0, 1}, {1, 0}, {0, 1}, {0, 1}, {1, 0}},
			"8:0-2,1-3,2-5,3-4,4-6,5-7,6-0,7-1,0-1,1-0"},
		{"1:0-0,0-0,0-0,0-0,0-0,0-0,0-0,0-0,0-0,0-0", 1, slices.Repeat([][]int64{{0}}, 10),
			"1:0-0,0-0,0-0,0-0,0-0,0-0,0-0,0-0,0-0,0-0"},
	} {
		derived, code := impl.DerivedGraph(impl.Cover{Base: parsed(t, c.base), Sheets: c.s, Turns: c.turns})
		sameCode(t, "derived graph of "+c.base, code, impl.ErrNone)
		same(t, "derived graph of "+c.base, derived, parsed(t, c.want))
	}
}

func TestDerivedGraphsBeyondLimits(t *testing.T) {
	for _, c := range []struct {
		base string
		s    int64
		code int64
	}{
		{"8:", 1, impl.ErrNone}, {"4:", 2, impl.ErrNone}, {"2:", 4, impl.ErrNone}, {"2:", 3, impl.ErrNone},
		{"3:", 3, impl.ErrLimit}, {"5:", 2, impl.ErrLimit}, {"3:", 4, impl.ErrLimit}, {"8:", 4, impl.ErrLimit},
		{"1:0-0,0-0,0-0,0-0,0-0", 2, impl.ErrNone}, {"1:0-0,0-0,0-0", 3, impl.ErrNone}, {"2:0-1,0-1", 4, impl.ErrNone},
		// No number of sheets leads to 11 edges: 12 are the next ones.
		{"1:0-0,0-0,0-0,0-0,0-0,0-0", 2, impl.ErrLimit}, {"1:0-0,0-0,0-0,0-0", 3, impl.ErrLimit},
		{"2:0-1,0-1,0-1", 4, impl.ErrLimit}, {"1:0-0,0-0,0-0,0-0,0-0,0-0,0-0,0-0,0-0,0-0", 4, impl.ErrLimit},
	} {
		g := parsed(t, c.base)
		cover, code := impl.TrivialCover(g, c.s)
		sameCode(t, "TrivialCover of "+c.base, code, impl.ErrNone)
		derived, code := impl.DerivedGraph(cover)
		sameCode(t, fmt.Sprint("DerivedGraph of ", c.base, c.s), code, c.code)
		quotient, quotientCode := impl.QuotientOfCover(cover)
		sameCode(t, fmt.Sprint("QuotientOfCover of ", c.base, c.s), quotientCode, c.code)
		if code != impl.ErrNone {
			same(t, "derived graph of "+c.base, derived, impl.Graph{})
			same(t, "quotient of "+c.base, quotient, []int64(nil))
		}
		// Nothing else has these limits.
		vertex, code := impl.ProjectVertex(cover, g.Size*c.s-1)
		sameCode(t, "ProjectVertex of "+c.base, code, impl.ErrNone)
		same(t, "vertex below of "+c.base, vertex, g.Size-1)
		connected, code := impl.IsConnectedCover(cover)
		sameCode(t, "IsConnectedCover of "+c.base, code, impl.ErrNone)
		same(t, "connected cover of "+c.base, connected, false)
		if len(g.Edges) > 0 {
			list, code := impl.PermutationOfWalk(cover, []int64{0, 1})
			sameCode(t, "PermutationOfWalk of "+c.base, code, impl.ErrNone)
			same(t, "permutation of "+c.base, list, cover.Turns[0])
			list, code = impl.TypeOfWalk(cover, []int64{0, 1})
			sameCode(t, "TypeOfWalk of "+c.base, code, impl.ErrNone)
			same(t, "type of "+c.base, list, filled(int(c.s), 1))
		}
	}
}

func TestQuotientsTimesReciprocalsAreReciprocals(t *testing.T) {
	found := 0
	for _, c := range sampleCovers(t) {
		quotient, code := impl.QuotientOfCover(c)
		what := fmt.Sprint("quotient of ", c)
		if exceeds(c) {
			sameCode(t, what, code, impl.ErrLimit)
			same(t, what, quotient, []int64(nil))
			continue
		}
		found++
		sameCode(t, what, code, impl.ErrNone)
		below, _ := impl.ReciprocalOf(c.Base)
		above, _ := impl.ReciprocalOf(derivedByHand(c))
		same(t, what, productOf(t, quotient, below), above)
		if c.Sheets == 1 {
			same(t, what, quotient, []int64{1})
		}
	}
	if found < 1000 {
		t.Errorf("only %d quotients were found", found)
	}
}

func TestQuotientsByText(t *testing.T) {
	for _, c := range []struct {
		base  string
		s     int64
		turns [][]int64
		want  []int64
	}{
		{"1:", 4, nil, []int64{1}},
		{"1:0-0", 2, [][]int64{{1, 0}}, []int64{1, 2, 1}},
		{"1:0-0", 2, [][]int64{{0, 1}}, []int64{1, -2, 1}},
		{"1:0-0", 3, [][]int64{{1, 2, 0}}, []int64{1, 2, 3, 2, 1}},
		{"1:0-0", 4, [][]int64{{1, 2, 3, 0}}, []int64{1, 2, 3, 4, 3, 2, 1}},
		{"3:0-1,1-2,2-0", 2, [][]int64{{0, 1}, {1, 0}, {0, 1}}, []int64{1, 0, 0, 2, 0, 0, 1}},
		{"3:0-1,1-2,2-0", 2, [][]int64{{1, 0}, {1, 0}, {0, 1}}, []int64{1, 0, 0, -2, 0, 0, 1}},
		{"2:0-1", 4, [][]int64{{3, 2, 1, 0}}, []int64{1}},
	} {
		cover := impl.Cover{Base: parsed(t, c.base), Sheets: c.s, Turns: c.turns}
		quotient, code := impl.QuotientOfCover(cover)
		sameCode(t, "quotient of "+c.base, code, impl.ErrNone)
		same(t, fmt.Sprint("quotient of ", c.base, c.turns), quotient, c.want)
	}
}

func TestQuotientsOfDoubleCoversAreSignedReciprocals(t *testing.T) {
	for _, g := range zetaGraphs(t) {
		if g.Size > 4 || len(g.Edges) > 5 {
			continue
		}
		for _, signs := range signLists(len(g.Edges)) {
			what := fmt.Sprint("double cover of ", g, signs)
			c, code := impl.DoubleCover(g, signs)
			sameCode(t, what, code, impl.ErrNone)
			quotient, code := impl.QuotientOfCover(c)
			sameCode(t, what, code, impl.ErrNone)
			signed, code := impl.SignedReciprocal(g, signs)
			sameCode(t, what, code, impl.ErrNone)
			same(t, what, quotient, signed)
			below, _ := impl.ReciprocalOf(g)
			derived, code := impl.DerivedGraph(c)
			sameCode(t, what, code, impl.ErrNone)
			above, _ := impl.ReciprocalOf(derived)
			same(t, what, productOf(t, below, signed), above)
		}
	}
}

func TestDoubleCovers(t *testing.T) {
	d := dice(42)
	for _, g := range zetaGraphs(t) {
		for range 3 {
			signs := rolledSigns(&d, len(g.Edges))
			want := impl.Cover{Base: g, Sheets: 2}
			for _, sign := range signs {
				turn := []int64{0, 1}
				if sign == -1 {
					turn = []int64{1, 0}
				}
				want.Turns = append(want.Turns, turn)
			}
			c, code := impl.DoubleCover(g, signs)
			sameCode(t, "DoubleCover", code, impl.ErrNone)
			same(t, fmt.Sprint("double cover of ", g, signs), c, want)
			same(t, "IsCover of a double cover", impl.IsCover(c), true)
		}
	}
	c, _ := impl.DoubleCover(parsed(t, "1:0-0"), []int64{-1})
	derived, code := impl.DerivedGraph(c)
	sameCode(t, "DerivedGraph", code, impl.ErrNone)
	same(t, "double cover of loop", derived, parsed(t, "2:0-1,1-0"))
}

func TestSignedReciprocalsAreDeterminants(t *testing.T) {
	d := dice(43)
	for _, g := range zetaGraphs(t) {
		matrix := edgeMatrix(g)
		for range 2 {
			signs := rolledSigns(&d, len(g.Edges))
			signed, code := impl.SignedReciprocal(g, signs)
			sameCode(t, "SignedReciprocal", code, impl.ErrNone)
			what := fmt.Sprint("signed reciprocal of ", g, signs)
			sameDeterminant(t, what, signed, len(matrix), func(u int64) [][]int64 {
				rows := squareRows(len(matrix))
				for i := range rows {
					for j := range rows {
						rows[i][j] = -u * matrix[i][j] * signs[j/2]
					}
					rows[i][i]++
				}
				return rows
			})
			// Changed signs of all edges at a vertex, a loop twice, change no walk's product.
			v := d.below(g.Size)
			for k, e := range g.Edges {
				if (e[0] == v) != (e[1] == v) {
					signs[k] = -signs[k]
				}
			}
			changed, _ := impl.SignedReciprocal(g, signs)
			same(t, what+" changed", changed, signed)
		}
	}
}

func TestSignedReciprocalsOfEqualSigns(t *testing.T) {
	for _, g := range zetaGraphs(t) {
		reciprocal, _ := impl.ReciprocalOf(g)
		signed, code := impl.SignedReciprocal(g, filled(len(g.Edges), 1))
		sameCode(t, "SignedReciprocal", code, impl.ErrNone)
		same(t, fmt.Sprint("signs 1 of ", g), signed, reciprocal)
		for k := range reciprocal {
			if k%2 == 1 {
				reciprocal[k] = -reciprocal[k]
			}
		}
		signed, code = impl.SignedReciprocal(g, filled(len(g.Edges), -1))
		sameCode(t, "SignedReciprocal", code, impl.ErrNone)
		same(t, fmt.Sprint("signs -1 of ", g), signed, reciprocal)
	}
	for _, c := range []struct {
		text  string
		signs []int64
		want  []int64
	}{
		{"1:", nil, []int64{1}},
		{"8:", []int64{}, []int64{1}},
		{"1:0-0", []int64{-1}, []int64{1, 2, 1}},
		{"2:0-1", []int64{-1}, []int64{1}},
		{"2:0-1,1-0", []int64{-1, 1}, []int64{1, 0, 2, 0, 1}},
		{"3:0-1,1-2,2-0", []int64{1, -1, 1}, []int64{1, 0, 0, 2, 0, 0, 1}},
		{"3:0-1,1-2,2-0", []int64{-1, -1, 1}, []int64{1, 0, 0, -2, 0, 0, 1}},
	} {
		signed, code := impl.SignedReciprocal(parsed(t, c.text), c.signs)
		sameCode(t, c.text, code, impl.ErrNone)
		same(t, fmt.Sprint("signed reciprocal of ", c.text, c.signs), signed, c.want)
	}
}

func TestTrivialCoversHavePowersAsQuotients(t *testing.T) {
	for _, g := range zetaGraphs(t) {
		for s := int64(1); s <= impl.MaxSheets; s++ {
			what := fmt.Sprint("trivial cover of ", g, s)
			unit := []int64{0, 1, 2, 3}[:s]
			want := impl.Cover{Base: g, Sheets: s, Turns: slices.Repeat([][]int64{unit}, len(g.Edges))}
			c, code := impl.TrivialCover(g, s)
			sameCode(t, what, code, impl.ErrNone)
			same(t, what, c, want)
			same(t, what, impl.IsCover(c), true)
			quotient, code := impl.QuotientOfCover(c)
			if exceeds(c) {
				sameCode(t, what, code, impl.ErrLimit)
				continue
			}
			sameCode(t, what, code, impl.ErrNone)
			reciprocal, _ := impl.ReciprocalOf(g)
			same(t, what, quotient, powerOf(t, reciprocal, int(s)-1))
		}
	}
}

func TestCyclicCovers(t *testing.T) {
	d := dice(44)
	for _, g := range zetaGraphs(t) {
		for s := int64(1); s <= impl.MaxSheets; s++ {
			list := make([]int64, len(g.Edges))
			want := impl.Cover{Base: g, Sheets: s}
			for k := range list {
				list[k] = []int64{d.between(-1000, 1000), d.between(-5, 5), 1000, -1000}[d.below(4)]
				turn := make([]int64, s)
				for i := range turn {
					// Multiples of s let the sum be greater than 0.
					turn[i] = (int64(i) + list[k] + 1000*s) % s
				}
				want.Turns = append(want.Turns, turn)
			}
			what := fmt.Sprint("cyclic cover of ", g, s, list)
			c, code := impl.CyclicCover(g, s, list)
			sameCode(t, what, code, impl.ErrNone)
			same(t, what, c, want)
			same(t, what, impl.IsCover(c), true)
		}
	}
	for _, c := range []struct {
		s      int64
		number int64
		want   []int64
	}{
		{1, 1000, []int64{0}}, {1, -1000, []int64{0}}, {2, -1, []int64{1, 0}}, {2, -2, []int64{0, 1}},
		{3, 0, []int64{0, 1, 2}}, {3, -1, []int64{2, 0, 1}}, {3, 1, []int64{1, 2, 0}}, {3, 3, []int64{0, 1, 2}},
		{3, 1000, []int64{1, 2, 0}}, {3, -1000, []int64{2, 0, 1}}, {4, 999, []int64{3, 0, 1, 2}},
		{4, -999, []int64{1, 2, 3, 0}}, {4, 1000, []int64{0, 1, 2, 3}}, {4, 2, []int64{2, 3, 0, 1}},
	} {
		cover, code := impl.CyclicCover(parsed(t, "1:0-0"), c.s, []int64{c.number})
		sameCode(t, fmt.Sprint("CyclicCover ", c.s, c.number), code, impl.ErrNone)
		same(t, fmt.Sprint("CyclicCover ", c.s, c.number), cover.Turns, [][]int64{c.want})
	}
}

func TestProjectVertex(t *testing.T) {
	for _, c := range sampleCovers(t) {
		for v := range c.Base.Size {
			for i := range c.Sheets {
				vertex, code := impl.ProjectVertex(c, v*c.Sheets+i)
				sameCode(t, fmt.Sprint("ProjectVertex ", c), code, impl.ErrNone)
				same(t, fmt.Sprint("ProjectVertex ", c, v, i), vertex, v)
			}
		}
		for _, v := range outside(c.Base.Size * c.Sheets) {
			vertex, code := impl.ProjectVertex(c, v)
			sameCode(t, fmt.Sprint("ProjectVertex ", c, v), code, impl.ErrRange)
			same(t, fmt.Sprint("ProjectVertex ", c, v), vertex, int64(0))
		}
	}
}

func TestConnectedCovers(t *testing.T) {
	met := map[string]int{}
	for _, c := range sampleCovers(t) {
		derived := derivedByHand(c)
		want := !slices.Contains(reachable(derived)[0], false)
		connected, code := impl.IsConnectedCover(c)
		what := fmt.Sprint("connected cover ", c)
		sameCode(t, what, code, impl.ErrNone)
		same(t, what, connected, want)
		met[fmt.Sprint(exceeds(c), want)]++
		if !exceeds(c) {
			parts, _ := impl.PartsOf(derived)
			same(t, what, connected, len(parts) == 1)
		}
	}
	for _, kind := range []string{"false false", "false true", "true false", "true true"} {
		if met[kind] < 100 {
			t.Errorf("there are too few covers for which exceeding a limit and being connected are %s: %v", kind, met)
		}
	}
}

func TestConnectedCoversByText(t *testing.T) {
	ring := "8:0-1,1-2,2-3,3-4,4-5,5-6,6-7,7-0"
	for _, c := range []struct {
		text string
		s    int64
		list []int64
		want bool
	}{
		{"1:", 1, nil, true}, {"1:", 2, nil, false}, {"2:", 1, nil, false}, {"2:", 4, nil, false},
		{"1:0-0", 1, []int64{0}, true}, {"1:0-0", 2, []int64{0}, false}, {"1:0-0", 2, []int64{1}, true},
		{"1:0-0", 4, []int64{1}, true}, {"1:0-0", 4, []int64{2}, false}, {"1:0-0,0-0", 4, []int64{2, 2}, false},
		{"1:0-0,0-0", 4, []int64{2, 1}, true}, {"2:0-1", 2, []int64{1}, false}, {"2:0-0", 2, []int64{1}, false},
		{"3:0-1,1-2,2-0", 2, []int64{1, 0, 0}, true}, {"3:0-1,1-2,2-0", 2, []int64{1, 1, 0}, false},
		{ring, 4, []int64{0, 0, 0, 0, 0, 0, 0, 1}, true}, {ring, 4, []int64{0, 0, 0, 1, 0, 0, 0, 1}, false},
		{ring, 3, []int64{0, 0, 0, 1, 0, 0, 0, 1}, true}, {ring, 4, filled(8, 1), false},
		{ring, 3, filled(8, -1), true}, {ring, 1, filled(8, 1), true},
	} {
		cover, code := impl.CyclicCover(parsed(t, c.text), c.s, c.list)
		sameCode(t, "CyclicCover of "+c.text, code, impl.ErrNone)
		connected, code := impl.IsConnectedCover(cover)
		sameCode(t, "IsConnectedCover of "+c.text, code, impl.ErrNone)
		same(t, fmt.Sprint("connected cover of ", c.text, c.s, c.list), connected, c.want)
	}
}

// isClosedWalk reports whether a list of directed edges is a closed walk, straight or not.
func isClosedWalk(g impl.Graph, list []int64) bool {
	directed := directedEdges(g)
	for i, e := range list {
		if directed[e][1] != directed[list[(i+1)%len(list)]][0] {
			return false
		}
	}
	return true
}

// sheetBehind returns the sheet at which one is behind a walk, beginning at a sheet.
func sheetBehind(c impl.Cover, walk []int64, sheet int64) int64 {
	for _, e := range walk {
		turn := c.Turns[e/2]
		if e%2 == 0 {
			sheet = turn[sheet]
		} else {
			sheet = int64(slices.Index(turn, sheet))
		}
	}
	return sheet
}

// typeByReturns returns the type of a closed walk: a cycle of the length d has d sheets to which
// one comes back after the walk has been gone d times, and not before.
func typeByReturns(c impl.Cover, walk []int64) []int64 {
	sheets := make([]int64, c.Sheets+1)
	for first := range c.Sheets {
		times := 1
		for sheet := sheetBehind(c, walk, first); sheet != first; sheet = sheetBehind(c, walk, sheet) {
			times++
		}
		sheets[times]++
	}
	var lengths []int64
	for d := c.Sheets; d >= 1; d-- {
		lengths = append(lengths, filled(int(sheets[d]/d), d)...)
	}
	return lengths
}

// checkClosedWalk compares what is told about a list of 1 to 20 directed edges with what it is, and
// reports whether it is a closed walk.
func checkClosedWalk(t *testing.T, c impl.Cover, walk []int64) bool {
	t.Helper()
	what := fmt.Sprint(" of ", c, walk)
	list, code := impl.PermutationOfWalk(c, walk)
	lengths, typeCode := impl.TypeOfWalk(c, walk)
	if !isClosedWalk(c.Base, walk) {
		sameCode(t, "permutation"+what, code, impl.ErrState)
		sameCode(t, "type"+what, typeCode, impl.ErrState)
		same(t, "permutation"+what, list, []int64(nil))
		same(t, "type"+what, lengths, []int64(nil))
		return false
	}
	sameCode(t, "permutation"+what, code, impl.ErrNone)
	sameCode(t, "type"+what, typeCode, impl.ErrNone)
	var want []int64
	for i := range c.Sheets {
		want = append(want, sheetBehind(c, walk, i))
	}
	same(t, "permutation"+what, list, want)
	same(t, "type"+what, lengths, typeByReturns(c, walk))
	sum := int64(0)
	for _, length := range lengths {
		sum += length
	}
	same(t, "sum of the type"+what, sum, c.Sheets)
	return true
}

func TestTypesOfAllShortLists(t *testing.T) {
	d := dice(45)
	for _, text := range []string{"1:0-0", "1:0-0,0-0", "2:0-1", "2:0-1,1-0", "2:0-0,1-1", "3:0-1,1-2,2-0", "2:0-0,0-1,1-1",
		"4:3-3,2-2", "4:0-1,2-3"} {
		g := parsed(t, text)
		edges := int64(2 * len(g.Edges))
		var lists [][]int64
		for e := range edges {
			lists = append(lists, []int64{e})
		}
		for at := 0; at < len(lists); at++ {
			for s := int64(1); s <= impl.MaxSheets; s++ {
				checkClosedWalk(t, rolledCover(&d, g, s), lists[at])
			}
			if len(lists[at]) < 4 {
				for e := range edges {
					lists = append(lists, append(slices.Clone(lists[at]), e))
				}
			}
		}
	}
}

// rolledWalk returns a walk of n directed edges, straight or not.
func rolledWalk(d *dice, g impl.Graph, n int) []int64 {
	directed := directedEdges(g)
	walk := []int64{d.below(int64(len(directed)))}
	for len(walk) < n {
		last := directed[walk[len(walk)-1]]
		if e := d.below(int64(len(directed))); directed[e][0] == last[1] {
			walk = append(walk, e)
		}
	}
	return walk
}

func TestTypesOfWalksOfAllLengths(t *testing.T) {
	d := dice(46)
	closed := map[int]int{}
	for _, c := range sampleCovers(t) {
		if len(c.Base.Edges) == 0 {
			continue
		}
		for range 4 {
			walk := rolledWalk(&d, c.Base, int(d.between(1, 20)))
			if checkClosedWalk(t, c, walk) {
				closed[len(walk)]++
			}
			half := walk[:(len(walk)+1)/2]
			back := slices.Concat(half, reversedWalk(half))
			if len(back) > 20 {
				continue
			}
			closed[len(back)]++
			checkClosedWalk(t, c, back)
			list, _ := impl.PermutationOfWalk(c, back)
			same(t, fmt.Sprint("there and back ", c, back), list, []int64{0, 1, 2, 3}[:c.Sheets])
		}
	}
	for n := 1; n <= 20; n++ {
		if closed[n] < 10 {
			t.Errorf("there are too few closed walks of the length %d: %v", n, closed)
		}
	}
}

func TestPermutationsOfJoinedAndReversedWalks(t *testing.T) {
	d := dice(47)
	for _, c := range sampleCovers(t) {
		if len(c.Base.Edges) == 0 || c.Base.Size > 2 {
			continue
		}
		walk, other := rolledWalk(&d, c.Base, int(d.between(1, 8))), rolledWalk(&d, c.Base, int(d.between(1, 8)))
		joined := slices.Concat(walk, other)
		if !isClosedWalk(c.Base, walk) || !isClosedWalk(c.Base, other) || !isClosedWalk(c.Base, joined) {
			continue
		}
		first, _ := impl.PermutationOfWalk(c, walk)
		second, _ := impl.PermutationOfWalk(c, other)
		both, _ := impl.PermutationOfWalk(c, joined)
		back, _ := impl.PermutationOfWalk(c, reversedWalk(walk))
		for i := range c.Sheets {
			same(t, fmt.Sprint("joined walks ", c, walk, other), both[i], second[first[i]])
			same(t, fmt.Sprint("reversed walk ", c, walk), back[first[i]], i)
		}
		kind, _ := impl.TypeOfWalk(c, walk)
		for by := range walk {
			turned, code := impl.TypeOfWalk(c, turnedBy(walk, by))
			sameCode(t, "TypeOfWalk", code, impl.ErrNone)
			same(t, fmt.Sprint("type of a turned walk ", c, walk), turned, kind)
		}
	}
}

func TestPermutationsLeadAlongDerivedGraphs(t *testing.T) {
	d := dice(48)
	for _, c := range sampleCovers(t) {
		if len(c.Base.Edges) == 0 || exceeds(c) {
			continue
		}
		walk := rolledWalk(&d, c.Base, int(d.between(1, 10)))
		if !isClosedWalk(c.Base, walk) {
			walk = slices.Concat(walk, reversedWalk(walk))
		}
		list, code := impl.PermutationOfWalk(c, walk)
		sameCode(t, "PermutationOfWalk", code, impl.ErrNone)
		derived, _ := impl.DerivedGraph(c)
		directed := directedEdges(derived)
		vertex := directedEdges(c.Base)[walk[0]][0]
		for i := range c.Sheets {
			at := vertex*c.Sheets + i
			for _, e := range walk {
				// The directed edges above e are those of the edges above its edge, in its direction.
				next := int64(-1)
				for j := range c.Sheets {
					if f := directed[2*(e/2*c.Sheets+j)+e%2]; f[0] == at {
						next = f[1]
					}
				}
				at = next
			}
			same(t, fmt.Sprint("walk above ", c, walk, i), at, vertex*c.Sheets+list[i])
		}
	}
}

func TestTypesByText(t *testing.T) {
	loop := impl.Cover{Base: parsed(t, "1:0-0"), Sheets: 4, Turns: [][]int64{{1, 2, 3, 0}}}
	pair := impl.Cover{Base: parsed(t, "1:0-0,0-0"), Sheets: 4, Turns: [][]int64{{1, 0, 2, 3}, {0, 2, 1, 3}}}
	theta := impl.Cover{Base: parsed(t, "2:0-1,0-1,0-1"), Sheets: 3, Turns: [][]int64{{0, 1, 2}, {1, 2, 0}, {1, 0, 2}}}
	for _, c := range []struct {
		cover impl.Cover
		walk  []int64
		list  []int64
		kind  []int64
	}{
		{loop, []int64{0}, []int64{1, 2, 3, 0}, []int64{4}},
		{loop, []int64{1}, []int64{3, 0, 1, 2}, []int64{4}},
		{loop, []int64{0, 0}, []int64{2, 3, 0, 1}, []int64{2, 2}},
		{loop, []int64{0, 1}, []int64{0, 1, 2, 3}, []int64{1, 1, 1, 1}},
		{loop, []int64{1, 0}, []int64{0, 1, 2, 3}, []int64{1, 1, 1, 1}},
		{loop, filled(20, 0), []int64{0, 1, 2, 3}, []int64{1, 1, 1, 1}},
		{loop, filled(19, 0), []int64{3, 0, 1, 2}, []int64{4}},
		{loop, filled(20, 1), []int64{0, 1, 2, 3}, []int64{1, 1, 1, 1}},
		{pair, []int64{0}, []int64{1, 0, 2, 3}, []int64{2, 1, 1}},
		{pair, []int64{0, 2}, []int64{2, 0, 1, 3}, []int64{3, 1}},
		{pair, []int64{2, 0}, []int64{1, 2, 0, 3}, []int64{3, 1}},
		{pair, []int64{0, 2, 1}, []int64{2, 1, 0, 3}, []int64{2, 1, 1}},
		{theta, []int64{2, 1}, []int64{1, 2, 0}, []int64{3}},
		{theta, []int64{0, 3}, []int64{2, 0, 1}, []int64{3}},
		{theta, []int64{2, 5}, []int64{0, 2, 1}, []int64{2, 1}},
		{theta, []int64{5, 2}, []int64{2, 1, 0}, []int64{2, 1}},
		{theta, []int64{2, 3}, []int64{0, 1, 2}, []int64{1, 1, 1}},
	} {
		list, code := impl.PermutationOfWalk(c.cover, c.walk)
		sameCode(t, "PermutationOfWalk", code, impl.ErrNone)
		same(t, fmt.Sprint("permutation of ", c.cover, c.walk), list, c.list)
		kind, code := impl.TypeOfWalk(c.cover, c.walk)
		sameCode(t, "TypeOfWalk", code, impl.ErrNone)
		same(t, fmt.Sprint("type of ", c.cover, c.walk), kind, c.kind)
	}
}

// checkWalkCode checks that a list is refused with a code.
func checkWalkCode(t *testing.T, c impl.Cover, walk []int64, want int64) {
	t.Helper()
	for name, f := range map[string]func(impl.Cover, []int64) ([]int64, int64){
		"PermutationOfWalk": impl.PermutationOfWalk, "TypeOfWalk": impl.TypeOfWalk,
	} {
		list, code := f(c, walk)
		sameCode(t, fmt.Sprint(name, c, walk), code, want)
		same(t, fmt.Sprint(name, c, walk), list, []int64(nil))
	}
}

func TestWalksOfCoversThatAreNone(t *testing.T) {
	loop, _ := impl.CyclicCover(parsed(t, "1:0-0"), 3, []int64{1})
	square, _ := impl.CyclicCover(parsed(t, "4:0-1,1-2,2-3,3-0"), 4, []int64{1, 2, 3, 0})
	empty, _ := impl.TrivialCover(parsed(t, "8:"), 4)
	for _, c := range []impl.Cover{loop, square, empty} {
		checkWalkCode(t, c, nil, impl.ErrRange)
		checkWalkCode(t, c, []int64{}, impl.ErrRange)
		checkWalkCode(t, c, filled(1000, 0), impl.ErrRange)
		for _, e := range outside(2 * int64(len(c.Base.Edges))) {
			// What is no directed edge is found before that the list is no closed walk.
			for _, walk := range [][]int64{{e}, {e, e}, {0, e}, {e, 0}, {0, 0, e}, {0, e, 1}, append(filled(30, 0), e)} {
				checkWalkCode(t, c, walk, impl.ErrRange)
			}
		}
	}
	checkWalkCode(t, empty, []int64{0}, impl.ErrRange)
	for _, n := range []int{1, 2, 19, 20} {
		same(t, fmt.Sprint("closed walk of ", n), checkClosedWalk(t, loop, filled(n, 0)), true)
	}
	checkWalkCode(t, loop, filled(21, 0), impl.ErrRange)
	checkWalkCode(t, loop, filled(21, 1), impl.ErrRange)
	checkWalkCode(t, square, slices.Repeat([]int64{0, 1}, 11), impl.ErrRange)
	checkWalkCode(t, square, filled(21, 0), impl.ErrRange)
	round := slices.Repeat([]int64{0, 2, 4, 6}, 5)
	same(t, "closed walk of 20", checkClosedWalk(t, square, round), true)
	same(t, "closed walk of 20", checkClosedWalk(t, square, slices.Repeat([]int64{0, 1}, 10)), true)
	for _, walk := range [][]int64{{0}, {0, 0}, {0, 2}, {0, 2, 4}, {0, 4}, {0, 1, 0}, {0, 2, 6, 4}, filled(20, 0), round[:19]} {
		checkWalkCode(t, square, walk, impl.ErrState)
	}
}

// coverFunctions returns the functions of a cover, their results as one value with its zero value.
func coverFunctions() map[string]struct {
	f    func(impl.Cover) (any, int64)
	zero any
} {
	return map[string]struct {
		f    func(impl.Cover) (any, int64)
		zero any
	}{
		"DerivedGraph":     {func(c impl.Cover) (any, int64) { x, e := impl.DerivedGraph(c); return x, e }, impl.Graph{}},
		"QuotientOfCover":  {func(c impl.Cover) (any, int64) { x, e := impl.QuotientOfCover(c); return x, e }, []int64(nil)},
		"IsConnectedCover": {func(c impl.Cover) (any, int64) { x, e := impl.IsConnectedCover(c); return x, e }, false},
	}
}

func TestCoverFunctionsRefuseWhatIsNoCover(t *testing.T) {
	for _, bad := range badCovers(t) {
		what := fmt.Sprint(" of ", bad.Base.Size, len(bad.Base.Edges), bad.Sheets, len(bad.Turns))
		same(t, "IsCover"+what, impl.IsCover(bad), false)
		for name, c := range coverFunctions() {
			result, code := c.f(bad)
			sameCode(t, name+what, code, impl.ErrInvalid)
			same(t, name+what, result, c.zero)
		}
		// What is no cover is found before a number or a list that is not as told.
		for _, v := range append(outside(1), 0, 1) {
			vertex, code := impl.ProjectVertex(bad, v)
			sameCode(t, "ProjectVertex"+what, code, impl.ErrInvalid)
			same(t, "ProjectVertex"+what, vertex, int64(0))
		}
		for _, walk := range [][]int64{nil, {0}, {0, 1}, {0, 2}, {-1}, {math.MaxInt64}, {math.MinInt64}, filled(21, 0)} {
			checkWalkCode(t, bad, walk, impl.ErrInvalid)
		}
	}
}

// refusedLists returns lists that are none of n numbers for edges, or have a number that is not
// as told.
func refusedLists(n int, numbers []int64) [][]int64 {
	lists := [][]int64{filled(n+1, 1), filled(1000, 1)}
	if n > 0 {
		lists = append(lists, nil, filled(n-1, 1))
	}
	for _, number := range numbers {
		for k := range n {
			list := filled(n, 1)
			list[k] = number
			lists = append(lists, list)
		}
		lists = append(lists, append(filled(n, 1), number))
	}
	return lists
}

func TestCoverFunctionsRefuseNumbersOutOfRange(t *testing.T) {
	sheets := []int64{0, 5, -1, 6, 1<<32 + 1, math.MaxInt64, math.MinInt64}
	for _, text := range []string{"1:", "8:", "1:0-0", "3:0-1,1-2,2-0", "8:0-1,1-2,2-3,3-4,4-5,5-6,6-7,7-0,0-4,2-6"} {
		g := parsed(t, text)
		n := len(g.Edges)
		for _, s := range sheets {
			c, code := impl.TrivialCover(g, s)
			sameCode(t, fmt.Sprint("TrivialCover", s), code, impl.ErrRange)
			same(t, fmt.Sprint("TrivialCover", s), c, impl.Cover{})
			c, code = impl.CyclicCover(g, s, filled(n, 0))
			sameCode(t, fmt.Sprint("CyclicCover", s), code, impl.ErrRange)
			same(t, fmt.Sprint("CyclicCover", s), c, impl.Cover{})
		}
		for _, list := range refusedLists(n, []int64{1001, -1001, 1 << 32, math.MaxInt64, math.MinInt64}) {
			for s := int64(1); s <= impl.MaxSheets; s++ {
				c, code := impl.CyclicCover(g, s, list)
				sameCode(t, fmt.Sprint("CyclicCover", list), code, impl.ErrRange)
				same(t, fmt.Sprint("CyclicCover", list), c, impl.Cover{})
			}
		}
		for _, number := range []int64{1000, -1000} {
			c, code := impl.CyclicCover(g, 3, filled(n, number))
			sameCode(t, fmt.Sprint("CyclicCover", number), code, impl.ErrNone)
			same(t, fmt.Sprint("CyclicCover", number), impl.IsCover(c), true)
		}
		for _, signs := range refusedLists(n, []int64{0, 2, -2, 3, 1<<32 + 1, math.MaxInt64, math.MinInt64, math.MinInt64 + 1}) {
			c, code := impl.DoubleCover(g, signs)
			sameCode(t, fmt.Sprint("DoubleCover", signs), code, impl.ErrRange)
			same(t, fmt.Sprint("DoubleCover", signs), c, impl.Cover{})
			signed, code := impl.SignedReciprocal(g, signs)
			sameCode(t, fmt.Sprint("SignedReciprocal", signs), code, impl.ErrRange)
			same(t, fmt.Sprint("SignedReciprocal", signs), signed, []int64(nil))
		}
	}
}

func TestCoverFunctionsRefuseWhatIsNoGraph(t *testing.T) {
	for _, bad := range badGraphs() {
		what := fmt.Sprint(" of ", bad.Size, len(bad.Edges))
		// What is no graph is found before a number or a list that is not as told.
		for _, s := range []int64{1, 2, 4, 0, 5, -1, math.MaxInt64, math.MinInt64} {
			c, code := impl.TrivialCover(bad, s)
			sameCode(t, "TrivialCover"+what, code, impl.ErrInvalid)
			same(t, "TrivialCover"+what, c, impl.Cover{})
			for _, list := range [][]int64{nil, {0}, filled(len(bad.Edges), 1), {1001}, {math.MinInt64}} {
				c, code = impl.CyclicCover(bad, s, list)
				sameCode(t, "CyclicCover"+what, code, impl.ErrInvalid)
				same(t, "CyclicCover"+what, c, impl.Cover{})
			}
		}
		for _, signs := range [][]int64{nil, {1}, {-1}, {0}, {math.MinInt64}, filled(len(bad.Edges), 1)} {
			c, code := impl.DoubleCover(bad, signs)
			sameCode(t, "DoubleCover"+what, code, impl.ErrInvalid)
			same(t, "DoubleCover"+what, c, impl.Cover{})
			signed, code := impl.SignedReciprocal(bad, signs)
			sameCode(t, "SignedReciprocal"+what, code, impl.ErrInvalid)
			same(t, "SignedReciprocal"+what, signed, []int64(nil))
		}
	}
}

// checkOwnCover fails the test if slices of a cover share memory with each other, or with what the
// function is given: it has to return the same after its result was overwritten.
func checkOwnCover(t *testing.T, what string, f func() (impl.Cover, int64)) {
	t.Helper()
	c, code := f()
	sameCode(t, what, code, impl.ErrNone)
	before := fmt.Sprint(c)
	turns := fmt.Sprint(c.Turns)
	ownRows(t, what, c.Base.Edges)
	same(t, what, fmt.Sprint(c.Turns), turns)
	ownRows(t, what, c.Turns)
	again, _ := f()
	same(t, what, fmt.Sprint(again), before)
}

func TestCoverResultsShareNoMemory(t *testing.T) {
	d := dice(49)
	for _, sample := range zetaGraphs(t) {
		g := roomyGraph(sample)
		signs := roomy(rolledSigns(&d, len(g.Edges)))
		before := wholeRows(g.Edges) + wholeMemory(signs)
		for s := int64(1); s <= impl.MaxSheets; s++ {
			checkOwnCover(t, "TrivialCover", func() (impl.Cover, int64) { return impl.TrivialCover(g, s) })
			checkOwnCover(t, "CyclicCover", func() (impl.Cover, int64) { return impl.CyclicCover(g, s, signs) })
		}
		checkOwnCover(t, "DoubleCover", func() (impl.Cover, int64) { return impl.DoubleCover(g, signs) })
		signed, _ := impl.SignedReciprocal(g, signs)
		scribble(signed)
		same(t, fmt.Sprint("memory of ", sample), wholeRows(g.Edges)+wholeMemory(signs), before)
	}
	for _, sample := range sampleCovers(t) {
		c := impl.Cover{Base: roomyGraph(sample.Base), Sheets: sample.Sheets, Turns: roomyRows(sample.Turns)}
		before := wholeRows(c.Base.Edges) + wholeRows(c.Turns)
		impl.IsCover(c)
		derived, _ := impl.DerivedGraph(c)
		ownRows(t, "DerivedGraph", derived.Edges)
		quotient, _ := impl.QuotientOfCover(c)
		scribble(quotient)
		impl.ProjectVertex(c, 0)
		impl.IsConnectedCover(c)
		for _, list := range [][]int64{nil, {0, 1}, {1, 0}, {0}, {1}, {0, 1, 0, 1}, {9, 9}, filled(21, 0)} {
			walk := roomy(list)
			memory := wholeMemory(walk)
			turn, _ := impl.PermutationOfWalk(c, walk)
			scribble(turn)
			kind, _ := impl.TypeOfWalk(c, walk)
			scribble(kind)
			same(t, fmt.Sprint("memory of ", list), wholeMemory(walk), memory)
		}
		same(t, fmt.Sprint("memory of ", sample), wholeRows(c.Base.Edges)+wholeRows(c.Turns), before)
	}
}
