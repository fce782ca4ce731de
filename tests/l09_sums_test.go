package tests

import (
	"fmt"
	"math"
	"math/big"
	"slices"
	"testing"

	"loop.example/g01298/impl"
)

// fits reports whether a number has an absolute value of at most MaxWhole.
func fits(n *big.Int) bool { return n.CmpAbs(big.NewInt(limit)) <= 0 }

// handPowerSums returns sums of powers with their code: for each one first the sum of products, then
// what it is taken from.
func handPowerSums(f []int64, n int64) ([]int64, int64) {
	sums := []int64{0}
	for k := 1; k <= int(n); k++ {
		var x exact
		for i := 1; i < k; i++ {
			x.add(at(f, i), sums[k-i])
		}
		own := new(big.Int).Mul(big.NewInt(int64(-k)), big.NewInt(at(f, k)))
		sum := new(big.Int).Sub(own, &x.sum)
		if x.met || !fits(own) || !fits(sum) {
			return nil, impl.ErrLimit
		}
		sums = append(sums, sum.Int64())
	}
	return sums[1:], impl.ErrNone
}

// handPolynomial returns the polynomial of sums with its code.
func handPolynomial(sums []int64) ([]int64, int64) {
	f := []int64{1}
	for k := 1; k <= len(sums); k++ {
		var x exact
		for i := range k {
			x.add(f[i], sums[k-i-1])
		}
		if x.met {
			return nil, impl.ErrLimit
		}
		if x.sum.Int64()%int64(k) != 0 {
			return nil, impl.ErrNotFound
		}
		f = append(f, -x.sum.Int64()/int64(k))
	}
	return cut(f), impl.ErrNone
}

// handPrimes returns the primes of sums with their code.
func handPrimes(sums []int64) ([]int64, int64) {
	var primes []int64
	for k := int64(1); k <= int64(len(sums)); k++ {
		var x exact
		for d := int64(1); d <= k; d++ {
			if k%d == 0 {
				x.add(moebius(k/d), sums[d-1])
			}
		}
		if x.met {
			return nil, impl.ErrLimit
		}
		if x.sum.Int64()%k != 0 {
			return nil, impl.ErrNotFound
		}
		primes = append(primes, x.sum.Int64()/k)
	}
	return primes, impl.ErrNone
}

// checkResult checks a list with its code.
func checkResult(t *testing.T, what string, got []int64, code int64, want []int64, wantCode int64) {
	t.Helper()
	if !slices.Equal(got, want) || code != wantCode {
		t.Errorf("%s: got %v and code %d, want %v and %d", what, got, code, want, wantCode)
	}
}

// checkPowerSums checks the sums of powers of a polynomial with 1 at u^0, and what they lead back
// to, and returns the code.
func checkPowerSums(t *testing.T, f []int64, n int64) int64 {
	t.Helper()
	want, wantCode := handPowerSums(f, n)
	sums, code := impl.PowerSumsOf(f, n)
	what := fmt.Sprint(" of ", f, n)
	checkResult(t, "sums of powers"+what, sums, code, want, wantCode)
	if code == impl.ErrNone {
		// They lead back to the polynomial as far as it is told by n sums.
		back, backCode := handPolynomial(sums)
		list, code := impl.PolynomialOfSums(sums)
		checkResult(t, "polynomial of sums"+what, list, code, back, backCode)
		if code == impl.ErrNone {
			same(t, "led back"+what, list, cut(f[:min(int(n)+1, len(f))]))
		}
	}
	return code
}

func TestSumsOfPowersOfReciprocalsAreStraightCounts(t *testing.T) {
	for _, g := range zetaGraphs(t) {
		reciprocal, _ := impl.ReciprocalOf(g)
		counts, code := impl.StraightCounts(g, impl.MaxCount)
		sameCode(t, "StraightCounts", code, impl.ErrNone)
		sums, code := impl.PowerSumsOf(reciprocal, impl.MaxCount)
		checkNumbers(t, fmt.Sprint("sums of ", g), sums, code, counts)
		var traces []int64
		for k, trace := range exactTraces(edgeMatrix(g), impl.MaxLength) {
			if k > 0 && fits(trace) {
				traces = append(traces, trace.Int64())
			}
		}
		sums, code = impl.PowerSumsOf(reciprocal, int64(len(traces)))
		checkNumbers(t, fmt.Sprint("sums of ", g), sums, code, traces)
		for n := range int64(impl.MaxSums + 1) {
			checkPowerSums(t, reciprocal, n)
		}
	}
}

func TestSumsOfPowersLeadBackToReciprocals(t *testing.T) {
	for _, g := range zetaGraphs(t) {
		reciprocal, _ := impl.ReciprocalOf(g)
		if len(g.Edges) > 5 {
			continue
		}
		for n := int64(len(reciprocal) - 1); n <= 12; n++ {
			sums, code := impl.PowerSumsOf(reciprocal, n)
			sameCode(t, fmt.Sprint("PowerSumsOf ", g), code, impl.ErrNone)
			back, code := impl.PolynomialOfSums(sums)
			checkNumbers(t, fmt.Sprint("polynomial of sums of ", g, n), back, code, reciprocal)
		}
	}
}

func TestPrimesOfClosedNumbersArePrimeNumbers(t *testing.T) {
	for _, g := range zetaGraphs(t) {
		var closed, primes []int64
		for k := int64(1); k <= impl.MaxLength; k++ {
			number, code := impl.ClosedNumber(g, k)
			sameCode(t, "ClosedNumber", code, impl.ErrNone)
			closed = append(closed, number)
			number, code = impl.PrimeNumber(g, k)
			sameCode(t, "PrimeNumber", code, impl.ErrNone)
			primes = append(primes, number)
			list, code := impl.PrimesOfSums(closed)
			if slices.Max(closed) > limit {
				// Of these graphs, just ten loops have so many closed walks, of the length 12.
				checkRefused(t, fmt.Sprint(" of ", g, k), []weightCall{{"PrimesOfSums", list, code}}, impl.ErrRange)
				same(t, "graph with many closed walks", []int64{g.Size, int64(len(g.Edges)), k}, []int64{1, 10, 12})
				continue
			}
			checkNumbers(t, fmt.Sprint("primes of closed numbers of ", g, k), list, code, primes)
		}
		reciprocal, _ := impl.ReciprocalOf(g)
		counts, code := impl.PrimeCounts(g, impl.MaxCount)
		sameCode(t, "PrimeCounts", code, impl.ErrNone)
		sums, _ := impl.PowerSumsOf(reciprocal, impl.MaxCount)
		list, code := impl.PrimesOfSums(sums)
		checkNumbers(t, fmt.Sprint("primes of sums of powers of ", g), list, code, counts)
	}
}

// begun returns a polynomial that begins with 1 and goes on with rolled numbers of a size.
func begun(d *dice, more int64, size int64) []int64 {
	f := []int64{1}
	for range more {
		f = append(f, d.between(-size, size))
	}
	return cut(f)
}

func TestSumsOfPowersOfRolledPolynomials(t *testing.T) {
	d := dice(96)
	codes := map[int64]int{}
	for range 4000 {
		size := []int64{1, 1, 2, 9, 1000, 40000000, limit / 24, limit / 3, limit}[d.below(9)]
		f := begun(&d, d.below(40), size)
		for _, n := range []int64{d.below(4), d.below(10), d.below(impl.MaxSums + 1), impl.MaxSums} {
			codes[checkPowerSums(t, f, n)]++
		}
	}
	if codes[impl.ErrNone] < 3000 || codes[impl.ErrLimit] < 3000 {
		t.Errorf("codes %v", codes)
	}
}

// rootSums returns the sums of the powers 1 to n of whole numbers, or fewer if they would be great.
func rootSums(roots []int64, n int) []int64 {
	var sums []int64
	for k := 1; k <= n; k++ {
		sum := new(big.Int)
		for _, root := range roots {
			sum.Add(sum, new(big.Int).Exp(big.NewInt(root), big.NewInt(int64(k)), nil))
		}
		if !fits(sum) {
			break
		}
		sums = append(sums, sum.Int64())
	}
	return sums
}

// TestPolynomialsOfSumsOfRoots holds the polynomial against the product of 1 - a u for the roots a,
// and the primes against the numbers of lists of colours.
func TestPolynomialsOfSumsOfRoots(t *testing.T) {
	d := dice(97)
	whole := 0
	for range 2000 {
		var roots []int64
		product := []int64{1}
		for range d.below(6) {
			root := d.between(-4, 4)
			roots = append(roots, root)
			product = productOf(t, product, cut([]int64{1, -root}))
		}
		sums := rootSums(roots, int(d.below(impl.MaxSums+1)))
		want, wantCode := handPolynomial(sums)
		list, code := impl.PolynomialOfSums(sums)
		checkResult(t, fmt.Sprint("polynomial of sums of ", roots, len(sums)), list, code, want, wantCode)
		if len(sums) >= len(product) && code == impl.ErrNone {
			whole++
			same(t, fmt.Sprint("polynomial of sums of ", roots, len(sums)), list, product)
		}
		primes, code := impl.PrimesOfSums(sums)
		wantPrimes, wantCode := handPrimes(sums)
		checkResult(t, fmt.Sprint("primes of sums of ", roots, len(sums)), primes, code, wantPrimes, wantCode)
		sameCode(t, fmt.Sprint("primes of sums of ", roots, len(sums)), code, impl.ErrNone)
	}
	if whole < 500 {
		t.Errorf("%d polynomials led back", whole)
	}
}

func TestPolynomialsAndPrimesOfRolledSums(t *testing.T) {
	d := dice(98)
	polynomials, primes := map[int64]int{}, map[int64]int{}
	for range 40000 {
		size := []int64{1, 3, 30, 1000000, limit / 4, limit}[d.below(6)]
		var sums []int64
		for k := range d.below(impl.MaxSums + 1) {
			n := d.between(-size, size)
			// Multiples of many numbers are divided more often.
			if d.below(3) > 0 {
				n -= n % (60 * (k + 1))
			}
			if d.below(12) == 0 {
				n = []int64{limit, -limit}[d.below(2)]
			}
			sums = append(sums, n)
		}
		list, code := impl.PolynomialOfSums(sums)
		want, wantCode := handPolynomial(sums)
		checkResult(t, fmt.Sprint("polynomial of ", sums), list, code, want, wantCode)
		polynomials[code]++
		list, code = impl.PrimesOfSums(sums)
		want, wantCode = handPrimes(sums)
		checkResult(t, fmt.Sprint("primes of ", sums), list, code, want, wantCode)
		primes[code]++
	}
	for _, code := range []int64{impl.ErrNone, impl.ErrLimit, impl.ErrNotFound} {
		if polynomials[code] < 500 || primes[code] < 500 {
			t.Errorf("code %d: %d polynomials, %d primes", code, polynomials[code], primes[code])
		}
	}
}

func TestSumsOfPowersByText(t *testing.T) {
	const third, seventh = 333333333333333, 142857142857143
	for _, c := range []struct {
		f    []int64
		n    int64
		want []int64
		code int64
	}{
		{[]int64{1}, 0, nil, impl.ErrNone},
		{[]int64{1}, 3, []int64{0, 0, 0}, impl.ErrNone},
		{[]int64{1, 0, 0, -2, 0, 0, 1}, 0, nil, impl.ErrNone},
		{[]int64{1, 0, 0, -2, 0, 0, 1}, 7, []int64{0, 0, 6, 0, 0, 6, 0}, impl.ErrNone},
		{[]int64{1, -3, 2}, 5, []int64{3, 5, 9, 17, 33}, impl.ErrNone},
		{[]int64{1, 2}, 4, []int64{-2, 4, -8, 16}, impl.ErrNone},
		{[]int64{1, 0, 0, 0, 7}, 3, []int64{0, 0, 0}, impl.ErrNone},
		{filled(40, 1), 3, []int64{-1, -1, -1}, impl.ErrNone},
		{[]int64{1, limit}, 1, []int64{-limit}, impl.ErrNone},
		{[]int64{1, -limit}, 1, []int64{limit}, impl.ErrNone},
		{[]int64{1, limit}, 2, nil, impl.ErrLimit},
		{[]int64{1, 0, limit / 2}, 3, []int64{0, -limit, 0}, impl.ErrNone},
		{[]int64{1, 0, -limit / 2}, 3, []int64{0, limit, 0}, impl.ErrNone},
		{[]int64{1, 0, limit/2 + 1}, 1, []int64{0}, impl.ErrNone},
		{[]int64{1, 0, limit/2 + 1}, 2, nil, impl.ErrLimit},
		{[]int64{1, 0, -limit/2 - 1}, 2, nil, impl.ErrLimit},
		{[]int64{1, 0, 0, 0, 0, limit / 5}, 9, []int64{0, 0, 0, 0, -limit, 0, 0, 0, 0}, impl.ErrNone},
		// 7 times this number is MaxWhole and 1 more.
		{[]int64{1, 0, 0, 0, 0, 0, 0, seventh}, 6, filled(6, 0), impl.ErrNone},
		{[]int64{1, 0, 0, 0, 0, 0, 0, seventh}, 7, nil, impl.ErrLimit},
		{[]int64{1, 0, 0, 0, 0, 0, 0, -seventh}, 7, nil, impl.ErrLimit},
		{[]int64{1, 0, 0, 0, 0, 0, 0, 1 - seventh}, 7, []int64{0, 0, 0, 0, 0, 0, limit - 6}, impl.ErrNone},
		// Products of just MaxWhole.
		{[]int64{1, 100000}, 3, []int64{-100000, 10000000000, -limit}, impl.ErrNone},
		{[]int64{1, -100000}, 3, []int64{100000, 10000000000, limit}, impl.ErrNone},
		{[]int64{1, -100001}, 3, nil, impl.ErrLimit},
		{[]int64{1, -100000}, 4, nil, impl.ErrLimit},
		// Sums of just MaxWhole, and of 1 more.
		{[]int64{1, 1, -third}, 3, []int64{-1, 2*third + 1, -limit}, impl.ErrNone},
		{[]int64{1, -1, -third}, 3, []int64{1, 2*third + 1, limit}, impl.ErrNone},
		{[]int64{1, -1, third + 1}, 2, []int64{1, -2*third - 1}, impl.ErrNone},
		{[]int64{1, -1, third + 1}, 3, nil, impl.ErrLimit},
		{[]int64{1, 1, third + 1}, 3, nil, impl.ErrLimit},
		// Sums that would come back within the limit, in both signs.
		{[]int64{1, 1, -17847237, -8759640}, 4, []int64{-1, 35694475, -27262792, 637047773418727}, impl.ErrNone},
		{[]int64{1, 1, -17847237, -8759640}, 5, nil, impl.ErrLimit},
		{[]int64{1, 1, -2, -2, 42626385514250}, 7, nil, impl.ErrLimit},
		{[]int64{1, -1, 2, -2, -95763489708020, 2}, 7, nil, impl.ErrLimit},
		// The difference alone exceeds the limit.
		{[]int64{1, 1, 0, 249999999999991}, 3, []int64{-1, 1, -749999999999974}, impl.ErrNone},
		{[]int64{1, -1, 2, 333333333333332}, 3, nil, impl.ErrLimit},
		{[]int64{1, 1, 333333333333332, -2}, 3, nil, impl.ErrLimit},
		// The sum of the products is found by itself, and taken from the number of the polynomial then.
		{[]int64{1, -1, third + 1, -1}, 3, nil, impl.ErrLimit},
		{[]int64{1, -1, 1, -2, 0, 1 - limit/5}, 5, []int64{1, -1, 4, 7, limit - 4}, impl.ErrNone},
		{[]int64{1, -4}, 24, rootSums([]int64{4}, 24), impl.ErrNone},
		{[]int64{1, -5}, 21, rootSums([]int64{5}, 21), impl.ErrNone},
		{[]int64{1, -5}, 22, nil, impl.ErrLimit},
	} {
		sums, code := impl.PowerSumsOf(c.f, c.n)
		checkResult(t, fmt.Sprint("sums of powers of ", c.f, c.n), sums, code, c.want, c.code)
		checkPowerSums(t, c.f, c.n)
	}
}

// sumsCase is a list of sums with what a function makes of it.
type sumsCase struct {
	sums []int64
	want []int64
	code int64
}

// checkSumsCases checks a function of sums, and that it is what is found by hand.
func checkSumsCases(t *testing.T, name string, f func([]int64) ([]int64, int64), hand func([]int64) ([]int64, int64), cases []sumsCase) {
	t.Helper()
	for _, c := range cases {
		list, code := f(c.sums)
		checkResult(t, fmt.Sprint(name, " of ", c.sums), list, code, c.want, c.code)
		want, wantCode := hand(c.sums)
		checkResult(t, fmt.Sprint(name, " by hand of ", c.sums), list, code, want, wantCode)
	}
}

func TestPolynomialsOfSumsByText(t *testing.T) {
	const seventh, quarter = 142857142857143, limit / 4
	checkSumsCases(t, "PolynomialOfSums", impl.PolynomialOfSums, handPolynomial, []sumsCase{
		{nil, []int64{1}, impl.ErrNone},
		{[]int64{0}, []int64{1}, impl.ErrNone},
		{filled(24, 0), []int64{1}, impl.ErrNone},
		{[]int64{0, 0, 6, 0, 0, 6, 0}, []int64{1, 0, 0, -2, 0, 0, 1}, impl.ErrNone},
		{[]int64{0, 0, 6}, []int64{1, 0, 0, -2}, impl.ErrNone},
		{[]int64{0, 0, 6, 0, 0}, []int64{1, 0, 0, -2}, impl.ErrNone},
		{[]int64{0, 0, 6, 0, 0, 0}, []int64{1, 0, 0, -2, 0, 0, 2}, impl.ErrNone},
		{filled(24, 1), []int64{1, -1}, impl.ErrNone},
		{filled(24, -1), filled(25, 1), impl.ErrNone},
		{filled(24, 2), []int64{1, -2, 1}, impl.ErrNone},
		{[]int64{-2, 4, -8}, []int64{1, 2}, impl.ErrNone},
		{rootSums([]int64{4}, 24), []int64{1, -4}, impl.ErrNone},
		{append(filled(23, 0), 24), append(append([]int64{1}, filled(23, 0)...), -1), impl.ErrNone},
		{append(filled(23, 0), -48), append(append([]int64{1}, filled(23, 0)...), 2), impl.ErrNone},
		{append(filled(23, 0), 23), nil, impl.ErrNotFound},
		{[]int64{0, 1}, nil, impl.ErrNotFound},
		{[]int64{0, -1}, nil, impl.ErrNotFound},
		{[]int64{1, 0}, nil, impl.ErrNotFound},
		{[]int64{0, 0, -2}, nil, impl.ErrNotFound},
		{[]int64{limit}, []int64{1, -limit}, impl.ErrNone},
		{[]int64{-limit}, []int64{1, limit}, impl.ErrNone},
		{[]int64{0, limit}, []int64{1, 0, -limit / 2}, impl.ErrNone},
		{[]int64{0, -limit}, []int64{1, 0, limit / 2}, impl.ErrNone},
		{[]int64{limit, 0}, nil, impl.ErrLimit},
		{[]int64{-limit, 0}, nil, impl.ErrLimit},
		// Products of just MaxWhole, and of 1 more.
		{[]int64{100000, 10000000000, limit}, []int64{1, -100000}, impl.ErrNone},
		{[]int64{-100000, 10000000000, -limit}, []int64{1, 100000}, impl.ErrNone},
		{[]int64{4, quarter, limit}, []int64{1, -4, -124999999999992, 166666666666656}, impl.ErrNone},
		{[]int64{-4, quarter, -limit}, []int64{1, 4, -124999999999992, -166666666666656}, impl.ErrNone},
		{[]int64{7, seventh}, []int64{1, -7, -71428571428547}, impl.ErrNone},
		{[]int64{7, seventh, 0}, nil, impl.ErrLimit},
		{[]int64{-7, seventh, 0}, nil, impl.ErrLimit},
		{[]int64{7, seventh, limit}, nil, impl.ErrLimit},
		// Sums of just MaxWhole, and of 1 more, which would come back within the limit.
		{[]int64{-4, 2, limit - 8}, []int64{1, 4, 7, -333333333333324}, impl.ErrNone},
		{[]int64{-4, 2, limit - 7}, nil, impl.ErrLimit},
		{[]int64{-4, 2, limit - 5}, nil, impl.ErrLimit},
		{[]int64{4, 2, 8 - limit}, []int64{1, -4, 7, 333333333333324}, impl.ErrNone},
		{[]int64{4, 2, 7 - limit}, nil, impl.ErrLimit},
		{[]int64{4, 2, 5 - limit}, nil, impl.ErrLimit},
		{[]int64{-2, 2, limit - 3}, nil, impl.ErrLimit},
		{[]int64{-2, 2, limit - 4}, nil, impl.ErrNotFound},
		// The least k where one of both errors arises.
		{[]int64{0, 1, 0, limit, limit, limit}, nil, impl.ErrNotFound},
		{[]int64{limit, 1, 1}, nil, impl.ErrLimit},
		{[]int64{0, 2, 1, limit, limit, limit}, nil, impl.ErrNotFound},
		{[]int64{0, limit, 0, limit, 1}, nil, impl.ErrLimit},
		{[]int64{0, limit, 1, limit, 1}, nil, impl.ErrNotFound},
	})
}

func TestPrimesOfSumsByText(t *testing.T) {
	checkSumsCases(t, "PrimesOfSums", impl.PrimesOfSums, handPrimes, []sumsCase{
		{nil, nil, impl.ErrNone},
		{[]int64{0}, []int64{0}, impl.ErrNone},
		{[]int64{-7}, []int64{-7}, impl.ErrNone},
		{[]int64{4, 16}, []int64{4, 6}, impl.ErrNone},
		{rootSums([]int64{2}, 12), []int64{2, 1, 2, 3, 6, 9, 18, 30, 56, 99, 186, 335}, impl.ErrNone},
		{rootSums([]int64{-1}, 8), []int64{-1, 1, 0, 0, 0, 0, 0, 0}, impl.ErrNone},
		{filled(24, 1), append([]int64{1}, filled(23, 0)...), impl.ErrNone},
		{filled(24, -limit), append([]int64{-limit}, filled(23, 0)...), impl.ErrNone},
		{filled(24, limit), append([]int64{limit}, filled(23, 0)...), impl.ErrNone},
		{filled(24, 0), filled(24, 0), impl.ErrNone},
		{[]int64{0, 0, 6, 0, 0, 6, 0}, []int64{0, 0, 2, 0, 0, 0, 0}, impl.ErrNone},
		{append(filled(23, 0), 24), append(filled(23, 0), 1), impl.ErrNone},
		{append(filled(23, 0), 12), nil, impl.ErrNotFound},
		{[]int64{1, 2}, nil, impl.ErrNotFound},
		{[]int64{0, -1}, nil, impl.ErrNotFound},
		{[]int64{1, 1, 2}, nil, impl.ErrNotFound},
		{[]int64{0, limit}, []int64{0, limit / 2}, impl.ErrNone},
		{[]int64{0, -limit}, []int64{0, -limit / 2}, impl.ErrNone},
		// Sums of just MaxWhole, and of 1 more.
		{[]int64{-1, limit - 1}, []int64{-1, limit / 2}, impl.ErrNone},
		{[]int64{1, 1 - limit}, []int64{1, -limit / 2}, impl.ErrNone},
		{[]int64{-1, limit}, nil, impl.ErrLimit},
		{[]int64{1, -limit}, nil, impl.ErrLimit},
		{[]int64{-limit, limit}, nil, impl.ErrLimit},
		// For 6, the sum of that of 1 less those of 2 and 3 comes before that of 6.
		{[]int64{1, 3 - limit, -2, 3 - limit, 1, -4}, []int64{1, 1 - limit/2, -1, 0, 0, 166666666666666}, impl.ErrNone},
		{[]int64{1, 3 - limit, -2, 3 - limit, 1, -3}, nil, impl.ErrNotFound},
		{[]int64{1, 5 - limit, -5, 5 - limit, 1, -5}, nil, impl.ErrLimit},
		{[]int64{-1, limit - 5, 5, limit - 5, -1, 5}, nil, impl.ErrLimit},
		{[]int64{1, 5 - limit, -5, 5 - limit, 1, -limit}, nil, impl.ErrLimit},
		// The least k where one of both errors arises.
		{[]int64{0, 1, 0, limit}, nil, impl.ErrNotFound},
		{[]int64{-1, 1, limit}, nil, impl.ErrLimit},
		{[]int64{-1, 2, limit}, nil, impl.ErrNotFound},
		{[]int64{-1, limit, 1}, nil, impl.ErrLimit},
	})
}

// longSums returns lists that are too long for sums.
func longSums() [][]int64 {
	return [][]int64{filled(25, 0), filled(25, 1), filled(26, 0), filled(1000, 0), filled(100000, 1), append(filled(24, 0), math.MinInt64)}
}

// greatSums returns numbers beyond MaxWhole.
func greatSums() []int64 {
	return []int64{limit + 1, -limit - 1, math.MaxInt64, math.MinInt64, math.MaxInt64 - 1, math.MinInt64 + 1, 2 * limit}
}

// sumCalls returns calls of both functions of sums.
func sumCalls(sums []int64) []weightCall {
	f, first := impl.PolynomialOfSums(sums)
	primes, second := impl.PrimesOfSums(sums)
	return []weightCall{{"PolynomialOfSums", f, first}, {"PrimesOfSums", primes, second}}
}

func TestSumsOutOfRange(t *testing.T) {
	for _, list := range longSums() {
		checkRefused(t, fmt.Sprint(" of ", len(list), " numbers"), sumCalls(list), impl.ErrRange)
	}
	for _, n := range greatSums() {
		for length := int64(1); length <= impl.MaxSums; length++ {
			for place := range length {
				list := filled(int(length), 0)
				list[place] = n
				checkRefused(t, fmt.Sprint(" of ", list), sumCalls(list), impl.ErrRange)
			}
		}
		// They are found before sums that exceed the limit, or are not divided.
		for _, list := range [][]int64{{1, 0, n}, {n, 0, 1}, {limit, -limit, limit, n}, {n, limit, limit}} {
			checkRefused(t, fmt.Sprint(" of ", list), sumCalls(list), impl.ErrRange)
		}
	}
}

// powerSumCall returns a call of PowerSumsOf.
func powerSumCall(f []int64, n int64) []weightCall {
	sums, code := impl.PowerSumsOf(f, n)
	return []weightCall{{"PowerSumsOf", sums, code}}
}

func TestPowerSumsThatAreRefused(t *testing.T) {
	numbers := []int64{-1, 25, -24, 26, math.MaxInt64, math.MinInt64, math.MinInt64 + 1, 1 << 32, 1<<32 + 3, -1 << 32}
	others := [][]int64{nil, {}, {2}, {-1}, {0, 1}, {2, 1}, {limit}, {-limit, 1}, {0, 0, 0, 5}, filled(40, 2), {-1, limit, limit}}
	for _, n := range slices.Concat(numbers, []int64{0, 1, 3, 24}) {
		// What is no polynomial is found before a number that is not as told, and this before a
		// polynomial without 1 at u^0, and this before the limit.
		for _, bad := range badPolynomials() {
			checkRefused(t, fmt.Sprint(" of ", len(bad), n), powerSumCall(bad, n), impl.ErrInvalid)
		}
		for _, f := range others {
			want := int64(impl.ErrState)
			if n < 0 || n > 24 {
				want = impl.ErrRange
			}
			checkRefused(t, fmt.Sprint(" of ", f, n), powerSumCall(f, n), want)
		}
	}
	for _, n := range numbers {
		for _, f := range [][]int64{{1}, {1, limit, limit}, {1, 0, 0, -2, 0, 0, 1}, filled(40, 1)} {
			checkRefused(t, fmt.Sprint(" of ", f, n), powerSumCall(f, n), impl.ErrRange)
		}
	}
}

func TestSumsShareNoMemory(t *testing.T) {
	d := dice(99)
	for range 300 {
		f := roomy(begun(&d, d.below(9), 3))
		sums := roomy(rootSums([]int64{d.between(-3, 3), d.between(-2, 2)}, int(d.below(25))))
		before := wholeMemory(f) + wholeMemory(sums)
		var texts []string
		for range 2 {
			powers, a := impl.PowerSumsOf(f, 12)
			polynomial, b := impl.PolynomialOfSums(sums)
			primes, c := impl.PrimesOfSums(sums)
			texts = append(texts, fmt.Sprint(powers, a, polynomial, b, primes, c))
			scribble(powers)
			scribble(polynomial)
			scribble(primes)
		}
		same(t, fmt.Sprint("results of ", f, sums), texts[1], texts[0])
		same(t, fmt.Sprint("memory of ", f, sums), wholeMemory(f)+wholeMemory(sums), before)
	}
	for _, list := range append(longSums()[:3], []int64{1, 0}, []int64{limit, 0}, []int64{math.MinInt64}) {
		sums := roomy(list)
		before := wholeMemory(sums)
		sumCalls(sums)
		powerSumCall(sums, 24)
		same(t, fmt.Sprint("memory of ", list), wholeMemory(sums), before)
	}
}
