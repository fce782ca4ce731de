package tests

import (
	"fmt"
	"math"
	"runtime"
	"slices"
	"sync"
	"testing"
	"time"

	"loop.example/g01298/impl"
)

// handFired returns chips with a vertex fired: a chip goes along each edge, and none along a loop.
func handFired(g impl.Graph, chips []int64, v int64) []int64 {
	after := slices.Clone(chips)
	for _, e := range directedEdges(g) {
		if e[0] == v && e[1] != v {
			after[v]--
			after[e[1]]++
		}
	}
	return after
}

// handReduced reports whether chips are reduced by the definition, all sets being fired.
func handReduced(g impl.Graph, chips []int64, q int64) bool {
	for v, n := range chips {
		if int64(v) != q && n < 0 {
			return false
		}
	}
	for _, set := range vertexSets(g.Size) {
		if len(set) == 0 || slices.Contains(set, q) {
			continue
		}
		after := chips
		for _, v := range set {
			after = handFired(g, after, v)
		}
		if !slices.ContainsFunc(set, func(v int64) bool { return after[v] < 0 }) {
			return false
		}
	}
	return true
}

// chipGroup tells equivalent chips of a connected graph by the inverse of the Laplacian rows without
// the vertex 0, times their determinant, which is the number of trees.
type chipGroup struct {
	g       impl.Graph
	inverse [][]int64
	trees   int64
}

// chipGroupOf returns the group of chips of a connected graph.
func chipGroupOf(g impl.Graph) chipGroup {
	minors := minorsOf(without(handLaplacian(g), 0))
	n := int(g.Size) - 1
	all := 1<<n - 1
	x := chipGroup{g: g, inverse: squareRows(n), trees: minors[all][all]}
	for i := range n {
		for j := range n {
			x.inverse[i][j] = int64(1-2*((i+j)%2)) * minors[all&^(1<<j)][all&^(1<<i)]
		}
	}
	return x
}

// areEquivalent reports whether whole numbers of firings lead from a to b.
func (x chipGroup) areEquivalent(a []int64, b []int64) bool {
	sum := int64(0)
	for v := range a {
		sum += a[v] - b[v]
	}
	if sum != 0 {
		return false
	}
	for _, row := range x.inverse {
		often := int64(0)
		for j, n := range row {
			often += n * (a[j+1] - b[j+1])
		}
		if often%x.trees != 0 {
			return false
		}
	}
	return true
}

// orderOf returns the least k of at least 1 for which k times chips are equivalent to 0.
func (x chipGroup) orderOf(chips []int64) int64 {
	k := int64(1)
	for !x.areEquivalent(times(k, chips), filled(len(chips), 0)) {
		k++
	}
	return k
}

// sumOf returns the sum of a list.
func sumOf(list []int64) int64 {
	sum := int64(0)
	for _, n := range list {
		sum += n
	}
	return sum
}

// rolledChips returns chips with numbers of absolute values of at most most.
func rolledChips(d *dice, size int64, most int64) []int64 {
	chips := make([]int64, size)
	for v := range chips {
		chips[v] = d.between(-most, most)
	}
	return chips
}

// rolledNothing returns chips of the degree 0.
func rolledNothing(d *dice, size int64, most int64) []int64 {
	chips := make([]int64, size)
	for range most {
		chips[d.below(size)]++
		chips[d.below(size)]--
	}
	return chips
}

// chipLists returns all lists of n numbers in low..high.
func chipLists(n int64, low int64, high int64) [][]int64 {
	lists := [][]int64{nil}
	for range n {
		var longer [][]int64
		for _, list := range lists {
			for number := low; number <= high; number++ {
				longer = append(longer, append(slices.Clone(list), number))
			}
		}
		lists = longer
	}
	return lists
}

// areWithin reports whether all numbers have absolute values of at most 200.
func areWithin(chips []int64) bool {
	return !slices.ContainsFunc(chips, func(n int64) bool { return n < -200 || n > 200 })
}

// checkFiring checks what comes of firing a vertex, and its degree.
func checkFiring(t *testing.T, g impl.Graph, chips []int64, v int64) bool {
	t.Helper()
	what := fmt.Sprint(" of ", g, chips, v)
	want := handFired(g, chips, v)
	after, code := impl.FireVertex(g, chips, v)
	if !areWithin(want) {
		checkRefused(t, "FireVertex"+what, []weightCall{{"FireVertex", after, code}}, impl.ErrLimit)
		return false
	}
	checkNumbers(t, "FireVertex"+what, after, code, want)
	before, code := impl.DegreeOfChips(g, chips)
	checkNumber(t, "DegreeOfChips"+what, before, code, sumOf(chips))
	degree, code := impl.DegreeOfChips(g, after)
	checkNumber(t, "degree of chips that were fired"+what, degree, code, before)
	return true
}

func TestFiringKeepsTheDegree(t *testing.T) {
	same(t, "MaxChips", impl.MaxChips, 200)
	d := dice(111)
	found := map[bool]int{}
	for _, g := range groupGraphs(t) {
		rows, _ := impl.AdjacencyOf(g)
		for v := range g.Size {
			chips := rolledChips(&d, g.Size, 190)
			checkFiring(t, g, chips, v)
			after, code := impl.FireVertex(g, chips, v)
			sameCode(t, fmt.Sprint("FireVertex of ", g, chips, v), code, impl.ErrNone)
			given := int64(0)
			for w, n := range rows[v] {
				if int64(w) != v {
					same(t, fmt.Sprint("FireVertex of ", g, chips, v), after[w], chips[w]+n)
					given += n
				}
			}
			same(t, fmt.Sprint("FireVertex of ", g, chips, v), after[v], chips[v]-given)
			for _, most := range []int64{0, 3, 200} {
				found[checkFiring(t, g, rolledChips(&d, g.Size, most), v)]++
			}
			for _, n := range []int64{-200, -199, 0, 199, 200} {
				found[checkFiring(t, g, filled(int(g.Size), n), v)]++
			}
		}
	}
	if found[true] < 1000 || found[false] < 1000 {
		t.Errorf("chips within and beyond the limit: %v", found)
	}
}

// Each number is led to just the limit, and to one more, in both signs.
func TestFiringAtTheLimit(t *testing.T) {
	for _, g := range groupGraphs(t) {
		for v := range g.Size {
			none := filled(int(g.Size), 0)
			changes := handFired(g, none, v)
			for w, change := range changes {
				for _, to := range []int64{-201, -200, 200, 201} {
					chips := slices.Clone(none)
					chips[w] = to - change
					if !areWithin(chips) {
						continue
					}
					if checkFiring(t, g, chips, v) != (to == -200 || to == 200) {
						t.Errorf("firing %d of %v and %v", v, g, chips)
					}
				}
			}
		}
	}
}

func TestFiringByText(t *testing.T) {
	for _, c := range []struct {
		text  string
		chips []int64
		v     int64
		want  []int64
	}{
		{"1:", []int64{0}, 0, []int64{0}},
		{"1:", []int64{-200}, 0, []int64{-200}},
		{"1:0-0,0-0", []int64{200}, 0, []int64{200}},
		{"8:", []int64{1, 2, 3, 4, 5, 6, 7, 8}, 7, []int64{1, 2, 3, 4, 5, 6, 7, 8}},
		{"2:0-0,1-1", []int64{3, -4}, 1, []int64{3, -4}},
		{"2:0-1", []int64{0, 0}, 0, []int64{-1, 1}},
		{"2:0-1", []int64{0, 0}, 1, []int64{1, -1}},
		{"2:0-1", []int64{-199, 199}, 0, []int64{-200, 200}},
		{"2:0-1", []int64{199, -199}, 1, []int64{200, -200}},
		{"2:0-1", []int64{-200, 199}, 0, nil},
		{"2:0-1", []int64{-199, 200}, 0, nil},
		{"2:0-1", []int64{200, 200}, 0, nil},
		{"2:0-1", []int64{200, 199}, 0, []int64{199, 200}},
		{"2:0-1", []int64{-200, -200}, 1, nil},
		{"2:0-1", []int64{-200, -199}, 1, []int64{-199, -200}},
		{"2:0-0,0-1,1-1", []int64{-199, 199}, 0, []int64{-200, 200}},
		{"2:0-0,0-1,1-1", []int64{-200, 0}, 0, nil},
		{"2:0-1,0-1,0-1,0-1,0-1,0-1,0-1,0-1,0-1,0-1", []int64{-190, 190}, 0, []int64{-200, 200}},
		{"2:0-1,0-1,0-1,0-1,0-1,0-1,0-1,0-1,0-1,0-1", []int64{-191, 190}, 0, nil},
		{"2:0-1,0-1,0-1,0-1,0-1,0-1,0-1,0-1,0-1,0-1", []int64{-190, 191}, 0, nil},
		{"3:0-1,1-2,2-0", []int64{2, 0, -1}, 0, []int64{0, 1, 0}},
		{"3:0-1,1-2,2-0", []int64{2, 0, -1}, 1, []int64{3, -2, 0}},
		{"3:0-1,1-2,2-0", []int64{0, 0, -199}, 2, nil},
		{"3:0-1,1-2,2-0", []int64{0, 0, -198}, 2, []int64{1, 1, -200}},
		{"4:0-1,0-2,0-3", []int64{1, 1, 1, 1}, 0, []int64{-2, 2, 2, 2}},
		{"4:0-1,0-2,0-3", []int64{200, 1, 1, 1}, 1, nil},
	} {
		g := parsed(t, c.text)
		after, code := impl.FireVertex(g, c.chips, c.v)
		what := fmt.Sprint("FireVertex of ", c.text, c.chips, c.v)
		if c.want == nil {
			checkRefused(t, what, []weightCall{{"", after, code}}, impl.ErrLimit)
			continue
		}
		checkNumbers(t, what, after, code, c.want)
	}
}

// chipGraphs returns connected graphs of all kinds.
func chipGraphs(t *testing.T) []impl.Graph { return connectedGraphs(groupGraphs(t)) }

// reducedLists returns chips of small numbers for each of which it is tried whether they are reduced.
func reducedLists(d *dice, g impl.Graph) [][]int64 {
	switch {
	case g.Size <= 2:
		return chipLists(g.Size, -3, 11)
	case g.Size == 3:
		return chipLists(3, -1, 4)
	}
	var lists [][]int64
	for range 60 {
		chips := make([]int64, g.Size)
		for v := range chips {
			chips[v] = max(-1, d.between(-5, 3))
		}
		lists = append(lists, chips)
	}
	return lists
}

func TestReducedChipsAreToldBySets(t *testing.T) {
	d := dice(112)
	found := map[bool]int{}
	for _, g := range chipGraphs(t) {
		for _, chips := range append(reducedLists(&d, g), filled(int(g.Size), 200), filled(int(g.Size), -200), filled(int(g.Size), 0)) {
			for q := range g.Size {
				want := handReduced(g, chips, q)
				got, code := impl.IsReducedAt(g, chips, q)
				if got != want || code != impl.ErrNone {
					t.Errorf("IsReducedAt of %v %v %d: got %v and code %d, want %v", g, chips, q, got, code, want)
				}
				found[want]++
			}
		}
	}
	if found[true] < 5000 || found[false] < 5000 {
		t.Errorf("reduced chips and others: %v", found)
	}
}

// checkForm checks the reduced form of chips, and returns it.
func checkForm(t *testing.T, x chipGroup, chips []int64, q int64) []int64 {
	t.Helper()
	what := fmt.Sprint(" of ", x.g, chips, q)
	form, code := impl.ReduceChips(x.g, chips, q)
	sameCode(t, "ReduceChips"+what, code, impl.ErrNone)
	if len(form) != len(chips) {
		t.Errorf("ReduceChips%s: %v", what, form)
		return filled(len(chips), 0)
	}
	if !handReduced(x.g, form, q) {
		t.Errorf("ReduceChips%s: %v is not reduced", what, form)
	}
	if !x.areEquivalent(chips, form) {
		t.Errorf("ReduceChips%s: %v is not equivalent", what, form)
	}
	same(t, "degree"+what, sumOf(form), sumOf(chips))
	if !areWithin(form) {
		return form
	}
	yes, code := impl.IsReducedAt(x.g, form, q)
	checkYes(t, "IsReducedAt of the form"+what, yes, code, true)
	yes, code = impl.AreEquivalentChips(x.g, chips, form)
	checkYes(t, "AreEquivalentChips of the form"+what, yes, code, true)
	yes, code = impl.AreEquivalentChips(x.g, form, chips)
	checkYes(t, "AreEquivalentChips of the form"+what, yes, code, true)
	again, code := impl.ReduceChips(x.g, form, q)
	checkNumbers(t, "ReduceChips of the form"+what, again, code, form)
	return form
}

func TestReducedChipsAreEquivalentToTheChips(t *testing.T) {
	d := dice(113)
	beyond := 0
	for _, g := range chipGraphs(t) {
		x := chipGroupOf(g)
		for q := range g.Size {
			lists := [][]int64{rolledChips(&d, g.Size, 200), rolledChips(&d, g.Size, 4), rolledNothing(&d, g.Size, 9),
				filled(int(g.Size), 200), filled(int(g.Size), -200), filled(int(g.Size), 0)}
			for _, chips := range lists {
				if !areWithin(checkForm(t, x, chips, q)) {
					beyond++
				}
			}
		}
	}
	if beyond < 300 {
		t.Errorf("only %d forms are beyond the limit", beyond)
	}
}

// Chips that come from firing, or from its reverse, have the same reduced form.
func TestReducedFormsOfFiredChips(t *testing.T) {
	d := dice(114)
	for _, g := range chipGraphs(t) {
		for q := range g.Size {
			chips := rolledChips(&d, g.Size, 60)
			form, code := impl.ReduceChips(g, chips, q)
			sameCode(t, "ReduceChips", code, impl.ErrNone)
			after := chips
			for range d.between(1, 12) {
				after, code = impl.FireVertex(g, after, d.below(g.Size))
				sameCode(t, "FireVertex", code, impl.ErrNone)
			}
			what := fmt.Sprint(" of ", g, chips, after, q)
			again, code := impl.ReduceChips(g, after, q)
			checkNumbers(t, "ReduceChips"+what, again, code, form)
			yes, code := impl.AreEquivalentChips(g, chips, after)
			checkYes(t, "AreEquivalentChips"+what, yes, code, true)
			yes, code = impl.AreEquivalentChips(g, after, chips)
			checkYes(t, "AreEquivalentChips"+what, yes, code, true)
		}
	}
}

func TestReducedFormsByText(t *testing.T) {
	for _, c := range []struct {
		text  string
		chips []int64
		q     int64
		want  []int64
	}{
		{"1:", []int64{-7}, 0, []int64{-7}},
		{"1:0-0", []int64{200}, 0, []int64{200}},
		{"2:0-1", []int64{3, 4}, 0, []int64{7, 0}},
		{"2:0-1", []int64{3, 4}, 1, []int64{0, 7}},
		{"2:0-1", []int64{-200, -200}, 0, []int64{-400, 0}},
		{"2:0-0,0-1,1-1", []int64{-2, 9}, 1, []int64{0, 7}},
		{"2:0-1,0-1,0-1", []int64{0, 5}, 0, []int64{3, 2}},
		{"2:0-1,0-1,0-1", []int64{0, 5}, 1, []int64{0, 5}},
		{"2:0-1,0-1,0-1", []int64{0, -1}, 0, []int64{-3, 2}},
		{"2:0-1,0-1,0-1", []int64{0, 3}, 0, []int64{3, 0}},
		{"2:0-1,0-1,0-1", []int64{-200, 200}, 0, []int64{-2, 2}},
		{"3:0-1,1-2,2-0", []int64{2, 0, -1}, 0, []int64{0, 1, 0}},
		{"3:0-1,1-2,2-0", []int64{2, 0, -1}, 1, []int64{0, 1, 0}},
		{"3:0-1,1-2,2-0", []int64{2, 0, -1}, 2, []int64{0, 1, 0}},
		{"3:0-1,1-2,2-0", []int64{0, 1, 1}, 0, []int64{2, 0, 0}},
		{"3:0-1,1-2,2-0", []int64{0, 0, 2}, 0, []int64{1, 1, 0}},
		{"3:0-1,1-2,2-0", []int64{200, 200, 200}, 0, []int64{600, 0, 0}},
		{"3:0-1,1-2,2-0", []int64{200, 200, 199}, 0, []int64{598, 1, 0}},
		{"3:0-1,1-2,2-0", []int64{-200, -200, -200}, 1, []int64{0, -600, 0}},
		{"3:0-1,1-2,2-0", []int64{-200, -200, -199}, 1, []int64{0, -600, 1}},
		{"4:0-1,0-2,0-3", []int64{1, 2, 3, 4}, 3, []int64{0, 0, 0, 10}},
		{"4:0-1,1-2,2-3,3-0", []int64{0, 0, 1, 0}, 0, []int64{0, 0, 1, 0}},
		{"4:0-1,1-2,2-3,3-0", []int64{0, 0, 2, 0}, 0, []int64{2, 0, 0, 0}},
		{"4:0-1,0-2,0-3,1-2,1-3,2-3", []int64{0, 0, 1, 2}, 0, []int64{0, 0, 1, 2}},
		{"4:0-1,0-2,0-3,1-2,1-3,2-3", []int64{0, 1, 1, 2}, 0, []int64{3, 0, 0, 1}},
		{"4:0-1,0-2,0-3,1-2,1-3,2-3", []int64{0, 1, 2, 3}, 0, []int64{3, 0, 1, 2}},
		{"4:0-1,0-2,0-3,1-2,1-3,2-3", []int64{0, 0, 0, 3}, 0, []int64{1, 1, 1, 0}},
		{"8:0-1,1-2,2-3,3-4,4-5,5-6,6-7", []int64{200, 200, 200, 200, 200, 200, 200, 200}, 3, []int64{0, 0, 0, 1600, 0, 0, 0, 0}},
		{"8:0-1,1-2,2-3,3-4,4-5,5-6,6-7", []int64{-200, -200, -200, -200, -200, -200, -200, -200}, 7, []int64{0, 0, 0, 0, 0, 0, 0, -1600}},
		{"8:0-1,1-2,2-3,3-4,4-5,5-6,6-7,7-0", []int64{200, 200, 200, 200, 200, 200, 200, 200}, 0, []int64{1600, 0, 0, 0, 0, 0, 0, 0}},
	} {
		g := parsed(t, c.text)
		same(t, fmt.Sprint("reduced form of ", c.text, c.chips, c.q), checkForm(t, chipGroupOf(g), c.chips, c.q), c.want)
	}
}

// checkEquivalence checks whether chips are equivalent, both ways, and returns it.
func checkEquivalence(t *testing.T, x chipGroup, a []int64, b []int64) bool {
	t.Helper()
	want := x.areEquivalent(a, b)
	got, code := impl.AreEquivalentChips(x.g, a, b)
	checkYes(t, fmt.Sprint("AreEquivalentChips of ", x.g, a, b), got, code, want)
	got, code = impl.AreEquivalentChips(x.g, b, a)
	checkYes(t, fmt.Sprint("AreEquivalentChips of ", x.g, b, a), got, code, want)
	return want
}

func TestEquivalentChips(t *testing.T) {
	d := dice(115)
	found := map[bool]int{}
	for _, g := range chipGraphs(t) {
		x := chipGroupOf(g)
		n := int(g.Size)
		for range 12 {
			a, change := rolledChips(&d, g.Size, 150), rolledNothing(&d, g.Size, d.below(20))
			b := slices.Clone(a)
			for v := range b {
				b[v] += change[v]
			}
			found[checkEquivalence(t, x, a, b)]++
			checkEquivalence(t, x, a, rolledChips(&d, g.Size, 200))
			// Chips of different degrees are not equivalent, even if the numbers at other vertices are.
			b[d.below(g.Size)] += 1
			same(t, "different degrees", checkEquivalence(t, x, a, b), false)
			same(t, "chips and themselves", checkEquivalence(t, x, a, a), true)
		}
		same(t, "most and least chips", checkEquivalence(t, x, filled(n, 200), filled(n, -200)), false)
		same(t, "most chips", checkEquivalence(t, x, filled(n, 200), filled(n, 200)), true)
		same(t, "least chips", checkEquivalence(t, x, filled(n, -200), filled(n, -200)), true)
		far := filled(n, -200)
		far[0], far[n-1] = 200, 200
		near := filled(n, -200)
		near[n-1], near[0] = 200, 200
		same(t, "far chips", checkEquivalence(t, x, far, near), true)
	}
	if found[true] < 500 || found[false] < 500 {
		t.Errorf("equivalent chips and others: %v", found)
	}
}

// Each two reduced forms of a degree are of different classes, and there are as many as classes.
func TestReducedFormsAreTheClasses(t *testing.T) {
	for _, text := range []string{"1:", "1:0-0", "2:0-1", "2:0-1,1-0,0-1,0-0", "2:0-1,0-1,0-1,0-1,0-1,0-1,0-1,0-1,0-1,0-1", "3:0-1,1-2,2-0",
		"3:0-1,0-1,1-2,1-2,2-0,2-0", "3:0-1,0-1,1-2,1-2,1-2", "4:0-1,0-2,0-3", "4:0-1,1-2,2-3,3-0", "4:0-1,1-2,2-3,3-0,0-2",
		"4:0-1,0-2,0-3,1-2,1-3,2-3", "5:0-1,1-2,2-0,2-3,3-4,4-2", "5:0-1,1-2,2-3,3-4,4-0"} {
		g := parsed(t, text)
		degrees, _ := impl.DegreesOf(g)
		for q := range g.Size {
			var forms [][]int64
			for _, chips := range chipLists(g.Size, 0, slices.Max(degrees)-1) {
				if chips[q] != 0 {
					continue
				}
				// A reduced number is less than the degree, so these are all.
				chips[q] = -sumOf(chips)
				if yes, code := impl.IsReducedAt(g, chips, q); yes {
					sameCode(t, "IsReducedAt", code, impl.ErrNone)
					forms = append(forms, chips)
				}
			}
			if len(degrees) == 1 {
				forms = [][]int64{{0}}
			}
			same(t, fmt.Sprint("classes of ", text, q), int64(len(forms)), number(t, impl.CountClasses, g))
			for i, a := range forms {
				for j, b := range forms {
					yes, code := impl.AreEquivalentChips(g, a, b)
					if yes != (i == j) || code != impl.ErrNone {
						t.Errorf("AreEquivalentChips of %s %v %v: got %v and code %d", text, a, b, yes, code)
					}
				}
			}
		}
	}
}

// checkOrder checks the order of chips of the degree 0, and returns it.
func checkOrder(t *testing.T, x chipGroup, chips []int64) int64 {
	t.Helper()
	what := fmt.Sprint("order of ", x.g, chips)
	order, code := impl.OrderOfChips(x.g, chips)
	checkNumber(t, what, order, code, x.orderOf(chips))
	last := int64(1)
	if factors, _ := impl.FactorsOf(x.g); len(factors) > 1 {
		last = factors[len(factors)-2]
	}
	if order < 1 || last%order != 0 {
		t.Errorf("%s: %d does not divide %d", what, order, last)
	}
	none := filled(len(chips), 0)
	for k := int64(1); k <= order; k++ {
		if sum := times(k, chips); areWithin(sum) {
			yes, code := impl.AreEquivalentChips(x.g, sum, none)
			checkYes(t, fmt.Sprint(what, " times ", k), yes, code, k == order)
		}
	}
	return order
}

func TestOrdersAreTheLeastOnes(t *testing.T) {
	d := dice(116)
	ones, greatest := 0, 0
	for _, g := range chipGraphs(t) {
		x := chipGroupOf(g)
		none := filled(int(g.Size), 0)
		same(t, fmt.Sprint("order of no chips of ", g), checkOrder(t, x, none), int64(1))
		for v := range g.Size {
			same(t, fmt.Sprint("order of fired chips of ", g), checkOrder(t, x, handFired(g, none, v)), int64(1))
		}
		most := int64(1)
		for _, chips := range [][]int64{rolledNothing(&d, g.Size, 1), rolledNothing(&d, g.Size, 2), rolledNothing(&d, g.Size, 30),
			rolledNothing(&d, g.Size, 90)} {
			order := checkOrder(t, x, chips)
			most = max(most, order)
			if order == 1 {
				ones++
			}
		}
		if factors, _ := impl.FactorsOf(g); g.Size > 1 && most > 1 && most == factors[g.Size-2] {
			greatest++
		}
	}
	if ones < 100 || greatest < 100 {
		t.Errorf("%d orders are 1, and %d the last factor but one", ones, greatest)
	}
}

func TestOrdersByText(t *testing.T) {
	for _, c := range []struct {
		text  string
		chips []int64
		want  int64
	}{
		{"1:", []int64{0}, 1},
		{"1:0-0,0-0", []int64{0}, 1},
		{"2:0-1", []int64{200, -200}, 1},
		{"2:0-0,0-1", []int64{-1, 1}, 1},
		{"2:0-1,0-1,0-1", []int64{-1, 1}, 3},
		{"2:0-1,0-1,0-1", []int64{-3, 3}, 1},
		{"2:0-1,0-1,0-1", []int64{-200, 200}, 3},
		{"2:0-1,0-1,0-1,0-1,0-1,0-1", []int64{2, -2}, 3},
		{"2:0-1,0-1,0-1,0-1,0-1,0-1", []int64{-3, 3}, 2},
		{"2:0-1,0-1,0-1,0-1,0-1,0-1,0-1,0-1,0-1,0-1", []int64{-200, 200}, 1},
		{"2:0-1,0-1,0-1,0-1,0-1,0-1,0-1,0-1,0-1,0-1", []int64{-199, 199}, 10},
		{"3:0-1,1-2,2-0", []int64{-1, 1, 0}, 3},
		{"3:0-1,1-2,2-0", []int64{0, 1, -1}, 3},
		{"3:0-1,1-2,2-0", []int64{-2, 1, 1}, 1},
		{"3:0-1,1-2,2-0", []int64{200, -200, 0}, 3},
		{"4:0-1,1-2,2-3,3-0", []int64{-1, 1, 0, 0}, 4},
		{"4:0-1,1-2,2-3,3-0", []int64{-1, 0, 1, 0}, 2},
		{"4:0-1,1-2,2-3,3-0,0-2", []int64{-1, 1, 0, 0}, 8},
		{"4:0-1,1-2,2-3,3-0,0-2", []int64{-1, 0, 1, 0}, 4},
		{"4:0-1,1-2,2-3,3-0,0-2", []int64{0, -1, 0, 1}, 2},
		{"4:0-1,0-2,0-3,1-2,1-3,2-3", []int64{-1, 1, 0, 0}, 4},
		{"4:0-1,0-2,0-3,1-2,1-3,2-3", []int64{-2, 1, 1, 0}, 4},
		{"4:0-1,0-2,0-3,1-2,1-3,2-3", []int64{-2, 2, 0, 0}, 2},
		{"8:0-1,1-2,2-3,3-4,4-5,5-6,6-7,7-0", []int64{-1, 1, 0, 0, 0, 0, 0, 0}, 8},
		{"8:0-1,1-2,2-3,3-4,4-5,5-6,6-7,7-0", []int64{-1, 0, 0, 0, 1, 0, 0, 0}, 2},
	} {
		g := parsed(t, c.text)
		same(t, fmt.Sprint("order of ", c.text, c.chips), checkOrder(t, chipGroupOf(g), c.chips), c.want)
	}
}

// digit returns 1 for yes, and 0 for no.
func digit(yes bool) int64 {
	if yes {
		return 1
	}
	return 0
}

// heldCalls returns calls of the functions that need chips alone, and of that with a vertex.
func heldCalls(g impl.Graph, chips []int64, v int64) []weightCall {
	degree, first := impl.DegreeOfChips(g, chips)
	after, second := impl.FireVertex(g, chips, v)
	return []weightCall{{"DegreeOfChips", degree, first}, {"FireVertex", after, second}}
}

// formCalls returns calls of the functions that need chips of a connected graph.
func formCalls(g impl.Graph, chips []int64, q int64) []weightCall {
	reduced, first := impl.IsReducedAt(g, chips, q)
	form, second := impl.ReduceChips(g, chips, q)
	both, third := impl.AreEquivalentChips(g, chips, chips)
	order, fourth := impl.OrderOfChips(g, chips)
	return []weightCall{{"IsReducedAt", digit(reduced), first}, {"ReduceChips", form, second}, {"AreEquivalentChips", digit(both), third},
		{"OrderOfChips", order, fourth}}
}

// vertexCalls returns calls of the functions with a vertex.
func vertexCalls(g impl.Graph, chips []int64, v int64) []weightCall {
	return []weightCall{heldCalls(g, chips, v)[1], formCalls(g, chips, v)[0], formCalls(g, chips, v)[1]}
}

// equivalenceCall returns a call of the function with two lists.
func equivalenceCall(g impl.Graph, a []int64, b []int64) []weightCall {
	both, code := impl.AreEquivalentChips(g, a, b)
	return []weightCall{{"AreEquivalentChips", digit(both), code}}
}

// wrongChips returns lists that are no chips of a graph with n vertices.
func wrongChips(n int64) [][]int64 {
	lists := [][]int64{nil, filled(int(n)-1, 0), filled(int(n)+1, 0), filled(1000, 0), append(filled(int(n), 0), 201)}
	for _, number := range []int64{201, -201, 1 << 32, -1 << 32, 1<<32 + 200, math.MaxInt64, math.MinInt64, math.MinInt64 + 1} {
		lists = append(lists, filled(int(n), number))
		for v := range n {
			list := filled(int(n), 0)
			list[v] = number
			lists = append(lists, list)
		}
	}
	return lists
}

func TestChipFunctionsRefuseWhatIsNoGraph(t *testing.T) {
	for _, bad := range badGraphs() {
		what := fmt.Sprint(" of ", bad.Size, len(bad.Edges))
		// What is no graph is found before lists and numbers that are not as told.
		lists := [][]int64{nil, {0}, {0, 0}, {1, -1}, {200, 200}, {201, 0}, {0, -201}, {math.MaxInt64, math.MaxInt64}, {math.MinInt64, 0}, filled(9, 0)}
		for _, chips := range lists {
			for _, v := range []int64{0, 1, -1, 2, 8, math.MaxInt64, math.MinInt64} {
				checkRefused(t, what, slices.Concat(heldCalls(bad, chips, v), formCalls(bad, chips, v)), impl.ErrInvalid)
			}
			checkRefused(t, what, slices.Concat(equivalenceCall(bad, chips, []int64{0, 0}), equivalenceCall(bad, []int64{0, 0}, chips)), impl.ErrInvalid)
		}
	}
}

func TestChipFunctionsRefuseWhatIsOutOfRange(t *testing.T) {
	for _, text := range []string{"1:", "8:", "1:0-0", "2:0-1", "4:0-1,2-3", "3:0-1,1-2,2-0", "5:0-1,1-2,2-0,3-4",
		"8:0-1,1-2,2-3,3-4,4-5,5-6,6-7,7-0,0-4,2-6"} {
		g := parsed(t, text)
		n := int(g.Size)
		// Lists and vertices out of range are found before that a graph is in parts, before that the
		// degree is not 0, and before the limit.
		right := [][]int64{filled(n, 0), filled(n, 200), filled(n, -200)}
		for _, chips := range wrongChips(g.Size) {
			what := fmt.Sprint(" of ", text, chips)
			for _, v := range []int64{0, g.Size - 1, -1, g.Size, math.MaxInt64, math.MinInt64} {
				checkRefused(t, what, slices.Concat(heldCalls(g, chips, v), formCalls(g, chips, v)), impl.ErrRange)
			}
			for _, other := range append(right, chips) {
				checkRefused(t, what, slices.Concat(equivalenceCall(g, chips, other), equivalenceCall(g, other, chips)), impl.ErrRange)
			}
		}
		for _, chips := range right {
			for _, v := range outside(g.Size) {
				checkRefused(t, fmt.Sprint(" of ", text, chips, v), vertexCalls(g, chips, v), impl.ErrRange)
			}
		}
	}
}

func TestChipFunctionsRefuseGraphsInParts(t *testing.T) {
	for _, text := range []string{"2:", "8:", "2:0-0,1-1", "4:0-1,2-3", "5:0-1,1-2,2-0,3-4", "8:0-1,1-2,2-3,3-4,4-5,5-6,6-0",
		"8:1-2,2-3,3-4,4-5,5-6,6-7", "3:0-2,2-0,1-1"} {
		g := parsed(t, text)
		n := int(g.Size)
		different := filled(n, 0)
		different[0], different[n-1] = 1, -1
		for _, chips := range [][]int64{filled(n, 0), filled(n, 1), filled(n, 200), filled(n, -200), different} {
			for v := range g.Size {
				what := fmt.Sprint(" of ", text, chips, v)
				checkRefused(t, what, formCalls(g, chips, v), impl.ErrState)
				checkRefused(t, what, slices.Concat(equivalenceCall(g, chips, different), equivalenceCall(g, different, chips)), impl.ErrState)
				degree, code := impl.DegreeOfChips(g, chips)
				checkNumber(t, "DegreeOfChips"+what, degree, code, sumOf(chips))
				checkFiring(t, g, chips, v)
			}
		}
	}
}

func TestOrdersNeedTheDegree0(t *testing.T) {
	d := dice(117)
	for _, g := range chipGraphs(t) {
		for _, chips := range [][]int64{filled(int(g.Size), 200), filled(int(g.Size), -200), filled(int(g.Size), 1), rolledChips(&d, g.Size, 200)} {
			if sumOf(chips) == 0 {
				chips[0]++
			}
			order, code := impl.OrderOfChips(g, chips)
			checkRefused(t, fmt.Sprint(" of ", g, chips), []weightCall{{"OrderOfChips", order, code}}, impl.ErrState)
		}
		for v := range g.Size {
			for _, degree := range []int64{1, -1} {
				chips := rolledNothing(&d, g.Size, 5)
				chips[v] += degree
				order, code := impl.OrderOfChips(g, chips)
				checkRefused(t, fmt.Sprint(" of ", g, chips), []weightCall{{"OrderOfChips", order, code}}, impl.ErrState)
			}
		}
	}
}

// chipResults returns a text of what the functions of chips return, and overwrites the lists.
func chipResults(g impl.Graph, chips []int64, v int64) string {
	text := ""
	for _, c := range slices.Concat(heldCalls(g, chips, v), formCalls(g, chips, v)) {
		text += fmt.Sprint(c.name, c.result, c.code)
		if list, ok := c.result.([]int64); ok {
			scribble(list)
		}
	}
	return text
}

func TestChipResultsShareNoMemory(t *testing.T) {
	d := dice(118)
	for _, sample := range groupGraphs(t) {
		g := roomyGraph(sample)
		n := int(g.Size)
		for _, list := range [][]int64{rolledChips(&d, g.Size, 200), rolledNothing(&d, g.Size, 9), filled(n, 0), filled(n+1, 0), filled(n, 201)} {
			chips := roomy(list)
			before := wholeRows(g.Edges) + wholeMemory(chips)
			for v := range g.Size {
				results := chipResults(g, chips, v)
				same(t, fmt.Sprint("results of ", sample, list), chipResults(g, chips, v), results)
			}
			same(t, fmt.Sprint("memory of ", sample, list), wholeRows(g.Edges)+wholeMemory(chips), before)
		}
	}
}

// allGroupResults returns a text of all that the functions of chapter 10 return.
func allGroupResults(g impl.Graph, signs []int64, chips []int64) string {
	return groupResults(g, signs) + chipResults(g, chips, g.Size-1)
}

func TestGroupResultsDependOnArgumentsAlone(t *testing.T) {
	d := dice(119)
	type given struct {
		g            impl.Graph
		signs, chips []int64
		want         string
	}
	var all []given
	for _, g := range groupGraphs(t) {
		x := given{g: g, signs: rolledSigns(&d, len(g.Edges)), chips: rolledNothing(&d, g.Size, 9)}
		x.want = allGroupResults(x.g, x.signs, x.chips)
		all = append(all, x)
	}
	for _, processors := range []int{1, 2, 8} {
		before := runtime.GOMAXPROCS(processors)
		var callers sync.WaitGroup
		for _, x := range all {
			// Several callers use the same graph at the same time.
			for range 2 {
				callers.Go(func() {
					if got := allGroupResults(x.g, x.signs, x.chips); got != x.want {
						t.Errorf("results of %v: got %s, want %s", x.g, got, x.want)
					}
				})
			}
		}
		callers.Wait()
		runtime.GOMAXPROCS(before)
	}
}

func TestNoGoroutineOfGroupsGoesOn(t *testing.T) {
	before := runtime.NumGoroutine()
	for _, g := range append(groupGraphs(t), badGraphs()...) {
		allGroupResults(g, filled(len(g.Edges), 1), filled(int(max(0, min(g.Size, 8))), 0))
	}
	// The last goroutine may still be on its way out behind its last step.
	for range 1000 {
		if runtime.NumGoroutine() <= before {
			return
		}
		time.Sleep(time.Millisecond)
	}
	t.Errorf("there are %d goroutines, and were %d before", runtime.NumGoroutine(), before)
}
