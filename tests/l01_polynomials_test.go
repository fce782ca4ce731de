package tests

import (
	"fmt"
	"math"
	"math/big"
	"math/bits"
	"testing"

	"loop.example/g01298/impl"
)

const limit = impl.MaxWhole

// filled returns a list of n equal numbers.
func filled(n int, number int64) []int64 {
	list := make([]int64, n)
	for i := range list {
		list[i] = number
	}
	return list
}

// times returns a list with all numbers multiplied.
func times(factor int64, list []int64) []int64 {
	var product []int64
	for _, n := range list {
		product = append(product, factor*n)
	}
	return product
}

// at returns the number of a list at k, 0 if there is none.
func at(f []int64, k int) int64 {
	if k < 0 || k >= len(f) {
		return 0
	}
	return f[k]
}

// cut returns a list without zeros at its end.
func cut(f []int64) []int64 {
	for len(f) > 0 && f[len(f)-1] == 0 {
		f = f[:len(f)-1]
	}
	return f
}

// exact is a sum that is found step by step, and remembers whether it has met the limit.
type exact struct {
	sum big.Int
	met bool
}

// check notes whether a number exceeds the limit.
func (x *exact) check(n *big.Int) {
	if n.CmpAbs(big.NewInt(limit)) > 0 {
		x.met = true
	}
}

// add adds a product to the sum.
func (x *exact) add(a int64, b int64) {
	product := new(big.Int).Mul(big.NewInt(a), big.NewInt(b))
	x.check(product)
	x.sum.Add(&x.sum, product)
	x.check(&x.sum)
}

// exactProduct returns a product, and whether it is within limits.
func exactProduct(f []int64, g []int64) ([]int64, bool) {
	var product []int64
	for k := range len(f) + len(g) {
		var x exact
		for i := range f {
			if k-i >= 0 && k-i < len(g) {
				x.add(f[i], g[k-i])
			}
		}
		if x.met {
			return nil, false
		}
		product = append(product, x.sum.Int64())
	}
	product = cut(product)
	return product, len(product) <= impl.MaxPoly
}

// rolledPolynomial returns a polynomial with at most most numbers, whose size varies.
func rolledPolynomial(d *dice, most int64) []int64 {
	sizes := []int64{1, 5, 1000, 40000000, limit / 40, limit / 2, limit}
	size := sizes[d.below(int64(len(sizes)))]
	f := make([]int64, d.below(most+1))
	for i := range f {
		f[i] = d.between(-1000000, 1000000)%(size+1) + d.between(-1, 1)*(size-size/1000000*d.below(1000000))
		f[i] = max(-limit, min(limit, f[i]))
	}
	return cut(f)
}

// badPolynomials returns lists that are no polynomials.
func badPolynomials() [][]int64 {
	return [][]int64{{0}, {1, 0}, {0, 0}, {limit + 1}, {-limit - 1}, {math.MaxInt64}, {math.MinInt64},
		{math.MinInt64, 1}, {1, math.MaxInt64, 1}, {1, limit + 1, 1}, filled(41, 1), filled(1000, 1), append(filled(40, 1), 0)}
}

func TestIsWhole(t *testing.T) {
	for _, f := range [][]int64{nil, {}, {1}, {-1}, {0, 1}, {0, 0, -7}, {limit}, {-limit}, {limit, -limit, 0, 1},
		filled(40, 1), filled(40, limit), filled(40, -limit), filled(39, 2)} {
		if !impl.IsWhole(f) {
			t.Errorf("IsWhole(%v) is false", f)
		}
	}
	for _, f := range badPolynomials() {
		if impl.IsWhole(f) {
			t.Errorf("IsWhole(%v) is true", f)
		}
	}
}

func TestAddWholeByExactSums(t *testing.T) {
	d := dice(2)
	for range 3000 {
		f, g := rolledPolynomial(&d, 40), rolledPolynomial(&d, 40)
		k := []int64{0, 1, -1, 2, -3, 1000, -1000}[d.below(7)]
		checkAdd(t, f, g, k)
	}
}

// checkAdd compares a sum with the exact one.
func checkAdd(t *testing.T, f []int64, g []int64, k int64) {
	t.Helper()
	want, code := []int64{}, int64(impl.ErrNone)
	for i := range max(len(f), len(g)) {
		x := exact{}
		x.add(at(f, i), 1)
		product := new(big.Int).Mul(big.NewInt(k), big.NewInt(at(g, i)))
		x.check(product)
		x.add(at(g, i), k)
		if x.met {
			want, code = nil, impl.ErrLimit
			break
		}
		want = append(want, x.sum.Int64())
	}
	got, gotCode := impl.AddWhole(f, g, k)
	sameCode(t, fmt.Sprint("AddWhole ", f, g, k), gotCode, code)
	same(t, fmt.Sprint("AddWhole ", f, g, k), got, cut(want))
}

func TestAddWholeAtItsEdges(t *testing.T) {
	for _, c := range []struct {
		f, g []int64
		k    int64
		want []int64
		code int64
	}{
		{nil, nil, 5, nil, impl.ErrNone},
		{nil, []int64{1, 2}, 0, nil, impl.ErrNone},
		{[]int64{1, 2}, nil, 1000, []int64{1, 2}, impl.ErrNone},
		{nil, []int64{1, 2}, -1000, []int64{-1000, -2000}, impl.ErrNone},
		{[]int64{3, 1, 2}, []int64{3, 1, 2}, -1, nil, impl.ErrNone},
		{[]int64{3, 1, 2}, []int64{1, 1, 2}, -1, []int64{2}, impl.ErrNone},
		{[]int64{1}, []int64{0, 0, 4}, 2, []int64{1, 0, 8}, impl.ErrNone},
		{filled(40, 1), filled(40, 1), 1, filled(40, 2), impl.ErrNone},
		{[]int64{limit}, []int64{limit}, -1, nil, impl.ErrNone},
		{[]int64{limit}, []int64{limit}, 1, nil, impl.ErrLimit},
		{[]int64{limit - 1}, []int64{1}, 1, []int64{limit}, impl.ErrNone},
		{[]int64{limit}, []int64{1}, 1, nil, impl.ErrLimit},
		{[]int64{-limit}, []int64{1}, -1, nil, impl.ErrLimit},
		{nil, []int64{limit / 1000}, 1000, []int64{limit}, impl.ErrNone},
		{nil, []int64{limit/1000 + 1}, 1000, nil, impl.ErrLimit},
		{[]int64{-limit}, []int64{limit/1000 + 1}, 1000, nil, impl.ErrLimit},
		{nil, []int64{limit}, 1000, nil, impl.ErrLimit},
		{[]int64{1}, []int64{1}, 1001, nil, impl.ErrRange},
		{[]int64{1}, []int64{1}, -1001, nil, impl.ErrRange},
		{[]int64{limit}, []int64{limit}, math.MaxInt64, nil, impl.ErrRange},
		{[]int64{limit}, []int64{limit}, math.MinInt64, nil, impl.ErrRange},
	} {
		got, code := impl.AddWhole(c.f, c.g, c.k)
		sameCode(t, fmt.Sprint("AddWhole ", c.f, c.g, c.k), code, c.code)
		same(t, fmt.Sprint("AddWhole ", c.f, c.g, c.k), got, c.want)
	}
}

func TestMultiplyWholeByExactSums(t *testing.T) {
	d := dice(3)
	within := 0
	for range 3000 {
		f, g := rolledPolynomial(&d, 20), rolledPolynomial(&d, 22)
		want, ok := exactProduct(f, g)
		got, code := impl.MultiplyWhole(f, g)
		if !ok {
			sameCode(t, fmt.Sprint("MultiplyWhole ", f, g), code, impl.ErrLimit)
			same(t, "product beyond a limit", got, []int64{})
			continue
		}
		within++
		sameCode(t, fmt.Sprint("MultiplyWhole ", f, g), code, impl.ErrNone)
		same(t, fmt.Sprint("MultiplyWhole ", f, g), got, want)
	}
	if within < 500 {
		t.Errorf("only %d products within limits", within)
	}
}

func TestMultiplyWholeAtItsEdges(t *testing.T) {
	for _, c := range []struct {
		f, g, want []int64
		code       int64
	}{
		{nil, nil, nil, impl.ErrNone},
		{nil, filled(40, limit), nil, impl.ErrNone},
		{filled(40, limit), nil, nil, impl.ErrNone},
		{[]int64{1}, filled(40, limit), filled(40, limit), impl.ErrNone},
		{filled(40, 3), []int64{-1}, filled(40, -3), impl.ErrNone},
		{filled(21, 0), filled(21, 0), nil, impl.ErrInvalid},
		{append(filled(20, 0), 1), append(filled(19, 0), 7), append(filled(39, 0), 7), impl.ErrNone},
		{append(filled(20, 0), 1), append(filled(20, 0), 7), nil, impl.ErrLimit},
		{[]int64{limit}, []int64{-1}, []int64{-limit}, impl.ErrNone},
		{[]int64{1000000000}, []int64{1000000}, []int64{limit}, impl.ErrNone},
		{[]int64{1000000000}, []int64{-1000000}, []int64{-limit}, impl.ErrNone},
		{[]int64{1000000001}, []int64{1000000}, nil, impl.ErrLimit},
		{[]int64{-1000000001}, []int64{1000000}, nil, impl.ErrLimit},
		{[]int64{limit}, []int64{limit}, nil, impl.ErrLimit},
		// 2^64 is 0 in int64.
		{[]int64{1 << 32}, []int64{1 << 32}, nil, impl.ErrLimit},
		{[]int64{limit, 1}, []int64{1, limit}, nil, impl.ErrLimit},
		// The sums on the way count, in the order of the first one.
		{[]int64{limit, 1, -limit}, []int64{1, 1, 1}, nil, impl.ErrLimit},
		{[]int64{limit, -1, 1}, []int64{1, 1, 1}, []int64{limit, limit - 1, limit, 0, 1}, impl.ErrNone},
		{[]int64{1, -1, limit}, []int64{1, 1, 1}, []int64{1, 0, limit, limit - 1, limit}, impl.ErrNone},
		{[]int64{1, limit, -1}, []int64{1, 1, 1}, nil, impl.ErrLimit},
	} {
		got, code := impl.MultiplyWhole(c.f, c.g)
		sameCode(t, fmt.Sprint("MultiplyWhole ", c.f, c.g), code, c.code)
		same(t, fmt.Sprint("MultiplyWhole ", c.f, c.g), got, c.want)
	}
}

func TestProductsAreDividedAgain(t *testing.T) {
	d := dice(4)
	done := 0
	for range 3000 {
		f, g := rolledPolynomial(&d, 15), rolledPolynomial(&d, 4)
		if len(g) == 0 || len(f) == 0 {
			continue
		}
		for i := range g {
			g[i] %= 4
		}
		g[0] = 1 - 2*d.below(2)
		g = cut(g)
		product, code := impl.MultiplyWhole(f, g)
		if code != impl.ErrNone {
			continue
		}
		quotient, code := impl.DivideWhole(product, g)
		// A sum on the way may exceed the limit.
		if code == impl.ErrLimit {
			continue
		}
		done++
		sameCode(t, fmt.Sprint("DivideWhole ", product, g), code, impl.ErrNone)
		same(t, fmt.Sprint("DivideWhole ", product, g), quotient, f)
	}
	if done < 1000 {
		t.Errorf("only %d products are divided", done)
	}
}

// exactQuotient returns what DivideWhole has to return for polynomials f and g, g having 1 or -1 at
// u^0, and f being the longer one: the products are added up, and their sum is subtracted then.
func exactQuotient(f []int64, g []int64) ([]int64, int64) {
	quotient := make([]int64, len(f)-len(g)+1)
	for k := range quotient {
		var sum, rest exact
		for i := 1; i <= k; i++ {
			sum.add(at(g, i), quotient[k-i])
		}
		rest.add(f[k], 1)
		rest.sum.Sub(&rest.sum, &sum.sum)
		rest.check(&rest.sum)
		if sum.met || rest.met {
			return nil, impl.ErrLimit
		}
		quotient[k] = rest.sum.Int64() * g[0]
	}
	product, ok := exactProduct(quotient, g)
	if !ok {
		return nil, impl.ErrLimit
	}
	if fmt.Sprint(product) != fmt.Sprint(f) {
		return nil, impl.ErrNotFound
	}
	return quotient, impl.ErrNone
}

func TestDivideWholeByExactSums(t *testing.T) {
	d := dice(9)
	codes := map[int64]int{}
	for range 6000 {
		q, g := make([]int64, d.between(1, 5)), make([]int64, d.between(1, 4))
		for i := range q {
			q[i] = d.between(-7, 7) * (limit / 10)
		}
		for i := range g {
			g[i] = d.between(-2, 2)
		}
		g[0] = 1 - 2*d.below(2)
		q, g = cut(q), cut(g)
		f, ok := exactProduct(q, g)
		if !ok || len(f) == 0 {
			continue
		}
		f[len(f)-1] += d.below(6) / 5
		f = cut(f)
		if len(f) < len(g) || !impl.IsWhole(f) {
			continue
		}
		want, code := exactQuotient(f, g)
		codes[code]++
		got, gotCode := impl.DivideWhole(f, g)
		sameCode(t, fmt.Sprint("DivideWhole ", f, g), gotCode, code)
		same(t, fmt.Sprint("DivideWhole ", f, g), got, want)
	}
	if codes[impl.ErrNone] < 1000 || codes[impl.ErrNotFound] < 100 {
		t.Errorf("too few cases: %v", codes)
	}
}

func TestDivideWholeFindsOnlyQuotients(t *testing.T) {
	d := dice(5)
	for range 3000 {
		f := make([]int64, d.between(1, 4))
		g := make([]int64, d.between(1, 3))
		for i := range f {
			f[i] = d.between(-2, 2)
		}
		for i := range g {
			g[i] = d.between(-2, 2)
		}
		f, g = cut(f), cut(g)
		checkQuotient(t, f, g)
	}
}

// checkQuotient looks for a quotient among all lists with small numbers.
func checkQuotient(t *testing.T, f []int64, g []int64) {
	t.Helper()
	got, code := impl.DivideWhole(f, g)
	if len(g) == 0 || g[0] != 1 && g[0] != -1 {
		same(t, fmt.Sprint("DivideWhole ", f, g), fmt.Sprint(got, code), "[] 5")
		return
	}
	if code == impl.ErrNone {
		product, _ := exactProduct(got, g)
		same(t, fmt.Sprint("DivideWhole ", f, g), product, f)
		return
	}
	sameCode(t, fmt.Sprint("DivideWhole ", f, g), code, impl.ErrNotFound)
	same(t, "no quotient", got, []int64{})
	// A quotient, if there is one, has at most 4 numbers, and they are not greater than 50.
	q := make([]int64, 4)
	for k := range q {
		n := at(f, k)
		for i := 1; i <= k; i++ {
			n -= at(g, i) * q[k-i]
		}
		q[k] = n * g[0]
	}
	if product, _ := exactProduct(cut(q), g); fmt.Sprint(product) == fmt.Sprint(f) {
		t.Errorf("DivideWhole(%v, %v) does not find %v", f, g, q)
	}
}

func TestDivideWholeAtItsEdges(t *testing.T) {
	const half = limit / 2
	for _, c := range []struct {
		f, g, want []int64
		code       int64
	}{
		{nil, []int64{1}, nil, impl.ErrNone},
		{nil, []int64{-1, 5, 7}, nil, impl.ErrNone},
		{nil, nil, nil, impl.ErrState},
		{[]int64{1}, nil, nil, impl.ErrState},
		{[]int64{4}, []int64{2}, nil, impl.ErrState},
		{[]int64{0, 1}, []int64{0, 1}, nil, impl.ErrState},
		{[]int64{1}, []int64{2, 1}, nil, impl.ErrState},
		{[]int64{4}, []int64{-1}, []int64{-4}, impl.ErrNone},
		{[]int64{4}, []int64{1, 1}, nil, impl.ErrNotFound},
		{[]int64{1, 1}, []int64{1, 1, 1}, nil, impl.ErrNotFound},
		{[]int64{0, 1, 1}, []int64{1, 1}, []int64{0, 1}, impl.ErrNone},
		{[]int64{1, 0, -1}, []int64{-1, 1}, []int64{-1, -1}, impl.ErrNone},
		{[]int64{1, 0, 1}, []int64{1, 1}, nil, impl.ErrNotFound},
		{[]int64{1, 1}, []int64{1, 2}, nil, impl.ErrNotFound},
		{filled(40, limit), []int64{1}, filled(40, limit), impl.ErrNone},
		{filled(40, limit), []int64{-1}, filled(40, -limit), impl.ErrNone},
		{filled(40, 1), filled(40, 1), []int64{1}, impl.ErrNone},
		{filled(39, 1), filled(40, 1), nil, impl.ErrNotFound},
		// The quotient, whole or not, exceeds the limit on the way.
		{[]int64{limit, -limit, -limit, limit}, []int64{1, 1}, nil, impl.ErrLimit},
		{append([]int64{1}, filled(39, 7)...), []int64{1, 1000}, nil, impl.ErrLimit},
		// The product exceeds it.
		{[]int64{2, 5}, []int64{1, limit}, nil, impl.ErrLimit},
		{[]int64{limit, 1, 1}, []int64{1, 2}, nil, impl.ErrLimit},
		// The products are added up before their sum is subtracted.
		{[]int64{limit, limit, 1}, []int64{1, 1, 1}, nil, impl.ErrNotFound},
		{[]int64{half + 1, 0, half + 1, 0, half + 1}, []int64{1, 1, 1}, []int64{half + 1, -half - 1, half + 1}, impl.ErrNone},
		{[]int64{half + 1, 0, -limit, -half - 3, -2}, []int64{1, -1, -1}, nil, impl.ErrLimit},
		// The product is within limits, but a sum of the products for the quotient is not.
		{times(limit/10, []int64{-5, 6, 8, -7, 5, -3, -2}), []int64{1, -2, 1, -1}, nil, impl.ErrLimit},
		{times(limit/10, []int64{-5, -9, 2, 1, -4, 0, -5}), []int64{1, 2, 1, 1}, nil, impl.ErrLimit},
	} {
		got, code := impl.DivideWhole(c.f, c.g)
		sameCode(t, fmt.Sprint("DivideWhole ", c.f, c.g), code, c.code)
		same(t, fmt.Sprint("DivideWhole ", c.f, c.g), got, c.want)
	}
}

func TestValueOfWholeByExactSums(t *testing.T) {
	d := dice(6)
	for range 3000 {
		f := rolledPolynomial(&d, 1+d.below(40))
		x := []int64{0, 1, -1, 2, -2, 7, -10, 1000, -1000}[d.below(9)]
		var value exact
		for k := len(f) - 1; k >= 0; k-- {
			product := new(big.Int).Mul(&value.sum, big.NewInt(x))
			value.check(product)
			value.sum.Set(product)
			value.add(f[k], 1)
		}
		got, code := impl.ValueOfWhole(f, x)
		if value.met {
			same(t, fmt.Sprint("ValueOfWhole ", f, x), fmt.Sprint(got, code), "0 3")
			continue
		}
		same(t, fmt.Sprint("ValueOfWhole ", f, x), fmt.Sprint(got, code), fmt.Sprint(&value.sum, 0))
	}
}

func TestValueOfWholeAtItsEdges(t *testing.T) {
	for _, c := range []struct {
		f    []int64
		x    int64
		want int64
		code int64
	}{
		{nil, 1000, 0, impl.ErrNone},
		{[]int64{7}, 0, 7, impl.ErrNone},
		{[]int64{7, 5}, 0, 7, impl.ErrNone},
		{[]int64{1, 2, 3}, 10, 321, impl.ErrNone},
		{[]int64{1, 2, 3}, -10, 281, impl.ErrNone},
		{[]int64{0, 0, 0, 0, 0, 1}, 1000, limit, impl.ErrNone},
		{[]int64{0, 0, 0, 0, 0, 1}, -1000, -limit, impl.ErrNone},
		{[]int64{1, 0, 0, 0, 0, 1}, 1000, 0, impl.ErrLimit},
		{[]int64{1, 0, 0, 0, 0, 1}, -1000, 1 - limit, impl.ErrNone},
		{[]int64{0, 0, 0, 0, 0, 0, 1}, 1000, 0, impl.ErrLimit},
		{[]int64{-limit, limit}, 1, 0, impl.ErrNone},
		{[]int64{-limit, limit}, 2, 0, impl.ErrLimit},
		{[]int64{-limit, 1, limit}, 1, 0, impl.ErrLimit},
		{[]int64{limit}, 1001, 0, impl.ErrRange},
		{[]int64{limit}, -1001, 0, impl.ErrRange},
		{[]int64{1}, math.MaxInt64, 0, impl.ErrRange},
		{[]int64{1}, math.MinInt64, 0, impl.ErrRange},
	} {
		got, code := impl.ValueOfWhole(c.f, c.x)
		same(t, fmt.Sprint("ValueOfWhole ", c.f, c.x), fmt.Sprint(got, code), fmt.Sprint(c.want, c.code))
	}
}

func TestDerivativeOfWhole(t *testing.T) {
	for _, c := range []struct {
		f, want []int64
		code    int64
	}{
		{nil, nil, impl.ErrNone},
		{[]int64{limit}, nil, impl.ErrNone},
		{[]int64{5, -3}, []int64{-3}, impl.ErrNone},
		{[]int64{5, 0, -3, 4}, []int64{0, -6, 12}, impl.ErrNone},
		{[]int64{limit, limit, limit / 2}, []int64{limit, limit}, impl.ErrNone},
		{[]int64{0, -limit, -limit / 2}, []int64{-limit, -limit}, impl.ErrNone},
		{[]int64{0, 0, limit/2 + 1}, nil, impl.ErrLimit},
		{[]int64{0, 0, -limit/2 - 1, 1}, nil, impl.ErrLimit},
		{filled(40, limit), nil, impl.ErrLimit},
		{append(filled(39, 0), 1), append(filled(38, 0), 39), impl.ErrNone},
	} {
		got, code := impl.DerivativeOfWhole(c.f)
		sameCode(t, fmt.Sprint("DerivativeOfWhole ", c.f), code, c.code)
		same(t, fmt.Sprint("DerivativeOfWhole ", c.f), got, c.want)
	}
	got, _ := impl.DerivativeOfWhole(filled(40, 1))
	for k, n := range got {
		same(t, "derivative of a sum of powers", n, int64(k+1))
	}
	same(t, "length of a derivative", len(got), 39)
}

func TestPolynomialFunctionsRefuseWhatIsNone(t *testing.T) {
	good := []int64{1, 1}
	for _, f := range badPolynomials() {
		// ErrInvalid comes before ErrRange, ErrState and ErrNotFound.
		for _, k := range []int64{1, 1001, math.MinInt64} {
			got, code := impl.AddWhole(f, good, k)
			same(t, "AddWhole", fmt.Sprint(got, code), "[] 1")
			got, code = impl.AddWhole(good, f, k)
			same(t, "AddWhole", fmt.Sprint(got, code), "[] 1")
			value, code := impl.ValueOfWhole(f, k)
			same(t, "ValueOfWhole", fmt.Sprint(value, code), "0 1")
		}
		for _, g := range [][]int64{good, nil, {2}, {1, 2, 3, 4, 5}} {
			got, code := impl.DivideWhole(f, g)
			same(t, "DivideWhole", fmt.Sprint(got, code), "[] 1")
			got, code = impl.DivideWhole(g, f)
			same(t, "DivideWhole", fmt.Sprint(got, code), "[] 1")
			got, code = impl.MultiplyWhole(f, g)
			same(t, "MultiplyWhole", fmt.Sprint(got, code), "[] 1")
			got, code = impl.MultiplyWhole(g, f)
			same(t, "MultiplyWhole", fmt.Sprint(got, code), "[] 1")
		}
		got, code := impl.DerivativeOfWhole(f)
		same(t, "DerivativeOfWhole", fmt.Sprint(got, code), "[] 1")
	}
}

// rolledRows returns m rows of m numbers.
func rolledRows(d *dice, m int64, most int64) [][]int64 {
	rows := make([][]int64, m)
	for i := range rows {
		for range m {
			rows[i] = append(rows[i], d.between(-most, most))
		}
	}
	return rows
}

// exactDeterminant returns the determinant of the unit matrix less u times rows, by the first row.
func exactDeterminant(rows [][]int64, u int64) *big.Int {
	matrix := make([][]*big.Int, len(rows))
	for i, row := range rows {
		for j, n := range row {
			entry := big.NewInt(-u * n)
			if i == j {
				entry.Add(entry, big.NewInt(1))
			}
			matrix[i] = append(matrix[i], entry)
		}
	}
	return expanded(matrix, 0, 0)
}

// expanded returns the determinant of the rows from i on without the columns that are used.
func expanded(matrix [][]*big.Int, i int, used int) *big.Int {
	if i == len(matrix) {
		return big.NewInt(1)
	}
	sum, sign := new(big.Int), int64(1)
	for j := range matrix {
		if used>>j&1 == 1 {
			continue
		}
		term := new(big.Int).Mul(matrix[i][j], expanded(matrix, i+1, used|1<<j))
		sum.Add(sum, term.Mul(term, big.NewInt(sign)))
		sign = -sign
	}
	return sum
}

func TestDeterminantWholeByExpansion(t *testing.T) {
	d := dice(7)
	for m := range int64(7) {
		for range 6 {
			checkDeterminant(t, rolledRows(&d, m, 2))
			checkDeterminant(t, rolledRows(&d, m, 20))
		}
	}
	checkDeterminant(t, rolledRows(&d, 8, 20))
	// Such rows have the greatest determinant that there is.
	great := make([][]int64, 8)
	for i := range great {
		for j := range 8 {
			great[i] = append(great[i], 20-40*int64(bits.OnesCount(uint(i&j))%2))
		}
	}
	checkDeterminant(t, great)
	f, _ := impl.DeterminantWhole(great)
	same(t, "greatest determinant", max(at(f, 8), -at(f, 8)), int64(20*20*20*20*20*20*20*20*8*8*8*8))
}

// checkDeterminant compares values of a determinant polynomial, more than its degree, with
// determinants.
func checkDeterminant(t *testing.T, rows [][]int64) {
	t.Helper()
	f, code := impl.DeterminantWhole(rows)
	sameCode(t, fmt.Sprint("DeterminantWhole ", rows), code, impl.ErrNone)
	if !impl.IsWhole(f) || len(f) > len(rows)+1 {
		t.Errorf("DeterminantWhole(%v) = %v", rows, f)
	}
	for u := int64(-4); u <= int64(len(rows))-4; u++ {
		value := new(big.Int)
		for k := len(f) - 1; k >= 0; k-- {
			value.Mul(value, big.NewInt(u)).Add(value, big.NewInt(f[k]))
		}
		same(t, fmt.Sprint("determinant of ", rows, " at ", u), fmt.Sprint(value), fmt.Sprint(exactDeterminant(rows, u)))
	}
}

func TestDeterminantsTellTraces(t *testing.T) {
	d := dice(8)
	for range 50 {
		rows := rolledRows(&d, d.between(1, 8), 3)
		f, _ := impl.DeterminantWhole(rows)
		var traces []int64
		power := rows
		for range rows {
			trace := int64(0)
			for i := range power {
				trace += power[i][i]
			}
			traces = append(traces, trace)
			power = timesRows(power, rows)
		}
		// The sums of powers are found from the polynomial.
		for k := 1; k <= len(rows); k++ {
			sum := -int64(k) * at(f, k)
			for i := 1; i < k; i++ {
				sum -= at(f, i) * traces[k-i-1]
			}
			same(t, fmt.Sprint("trace ", k, " of ", rows), traces[k-1], sum)
		}
	}
}

// timesRows returns the product of two square matrices.
func timesRows(a [][]int64, b [][]int64) [][]int64 {
	product := make([][]int64, len(a))
	for i := range a {
		for j := range a {
			sum := int64(0)
			for k := range a {
				sum += a[i][k] * b[k][j]
			}
			product[i] = append(product[i], sum)
		}
	}
	return product
}

func TestDeterminantWholeAtItsEdges(t *testing.T) {
	nine := make([][]int64, 9)
	eight := make([][]int64, 8)
	for i := range nine {
		nine[i] = make([]int64, 9)
	}
	for i := range eight {
		eight[i] = make([]int64, 8)
	}
	for _, c := range []struct {
		rows [][]int64
		want []int64
		code int64
	}{
		{nil, []int64{1}, impl.ErrNone},
		{[][]int64{{0}}, []int64{1}, impl.ErrNone},
		{[][]int64{{20}}, []int64{1, -20}, impl.ErrNone},
		{[][]int64{{-20}}, []int64{1, 20}, impl.ErrNone},
		{[][]int64{{0, 1}, {0, 0}}, []int64{1}, impl.ErrNone},
		{[][]int64{{0, 2}, {2, 0}}, []int64{1, 0, -4}, impl.ErrNone},
		{[][]int64{{1, 2}, {3, 4}}, []int64{1, -5, -2}, impl.ErrNone},
		{eight, []int64{1}, impl.ErrNone},
		{nine, nil, impl.ErrRange},
		{make([][]int64, 1000), nil, impl.ErrRange},
		{[][]int64{{21}}, nil, impl.ErrRange},
		{[][]int64{{-21}}, nil, impl.ErrRange},
		{[][]int64{{math.MaxInt64}}, nil, impl.ErrRange},
		{[][]int64{{math.MinInt64}}, nil, impl.ErrRange},
		{[][]int64{{1, 2}, {3, 21}}, nil, impl.ErrRange},
		{[][]int64{nil}, nil, impl.ErrRange},
		{[][]int64{{}}, nil, impl.ErrRange},
		{[][]int64{{1, 2}}, nil, impl.ErrRange},
		{[][]int64{{1}, {2}}, nil, impl.ErrRange},
		{[][]int64{{1, 2}, {3}}, nil, impl.ErrRange},
		{[][]int64{{1, 2}, {3, 4, 5}}, nil, impl.ErrRange},
		{[][]int64{{1, 2}, nil}, nil, impl.ErrRange},
	} {
		got, code := impl.DeterminantWhole(c.rows)
		sameCode(t, fmt.Sprint("DeterminantWhole ", c.rows), code, c.code)
		same(t, fmt.Sprint("DeterminantWhole ", c.rows), got, c.want)
	}
}

func TestPolynomialResultsShareNoMemory(t *testing.T) {
	f, g := roomy([]int64{1, 3, 2}), roomy([]int64{1, 1})
	rows := roomyRows([][]int64{{1, 2}, {3, 4}})
	one := roomy([]int64{1})
	memory := func() string { return wholeMemory(f) + wholeMemory(g) + wholeMemory(one) + wholeRows(rows) }
	before := memory()
	impl.IsWhole(f)
	impl.ValueOfWhole(f, 3)
	for k := int64(-1); k <= 1; k++ {
		sum, _ := impl.AddWhole(f, g, k)
		scribble(sum)
		sum, _ = impl.AddWhole(f, nil, k)
		scribble(sum)
	}
	for _, h := range [][]int64{f, g, one} {
		product, _ := impl.MultiplyWhole(f, h)
		scribble(product)
		product, _ = impl.MultiplyWhole(h, f)
		scribble(product)
		quotient, _ := impl.DivideWhole(f, h)
		scribble(quotient)
	}
	derivative, _ := impl.DerivativeOfWhole(f)
	scribble(derivative)
	determinant, _ := impl.DeterminantWhole(rows)
	scribble(determinant)
	same(t, "memory", memory(), before)
}
