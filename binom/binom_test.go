package binom_test

import (
	"math"
	"math/big"
	"slices"
	"testing"

	"wholemend/api"
	"wholemend/binom"
)

const (
	mostOf = api.MaxChoose
	most   = api.MaxInt
)

// sizes are allowed for n in Mod and Times, up to the bounds; notSizes are not.
var (
	sizes = []int{
		0, 1, 2, 3, 4, 5, 6, 7, 10, 59, 60, 61, 62, 100, 994, 996, 997, 998, 1000, 1993,
		1994, 4096, 994008, 994009, 994010, 1000000, 7529535, 536870911, 536870912, 991026972,
		991026973, most - 2, most - 1, most,
	}
	notSizes = []int{
		math.MinInt, math.MinInt + 1, math.MinInt32, -most, -60, -2, -1,
		most + 1, most + 2, math.MaxInt32, math.MaxInt32 + 1, 1 << 40, math.MaxInt - 1, math.MaxInt,
	}
)

// notPrimes are not allowed for p.
var notPrimes = []int{
	math.MinInt, math.MinInt + 1, math.MinInt32, -997, -7, -5, -3, -2, -1, 0, 1, 4, 6, 8,
	9, 15, 25, 49, 91, 561, 841, 899, 961, 994, 995, 996, 998, 999, 1000, 1001, 1003, 1009,
	1013, 994009, 999983, 1000000, 1000001, 1000003, most, most + 7, math.MaxInt32,
	math.MaxInt - 1, math.MaxInt,
}

// somePrimes are the smallest ones allowed for p, and the largest ones.
var somePrimes = []int{2, 3, 5, 7, 11, 13, 31, 97, 499, 983, 991, 997}

// allPrimes returns all that are allowed for p.
func allPrimes() []int {
	var primes []int
	for n := 2; n <= api.MaxSmall; n++ {
		if !slices.ContainsFunc(primes, func(p int) bool { return n%p == 0 }) {
			primes = append(primes, n)
		}
	}
	return primes
}

// choices returns numbers that are allowed for k.
func choices(n int) []int {
	l := []int{
		0, 1, 2, 3, 5, 7, 30, 60, 997, 1000, 4095, 994008, 994009, 500000000, 536870911,
		n / 7, n / 3, n / 2, n/2 + 1, n - 1000, n - 61, n - 3, n - 2, n - 1, n,
	}
	return slices.DeleteFunc(l, func(k int) bool { return k < 0 || k > n })
}

// notChoices returns numbers that are not allowed for k in Mod and Times.
func notChoices(n int) []int {
	return []int{
		math.MinInt, math.MinInt + 1, math.MinInt32, -n - 1, -60, -2, -1,
		n + 1, n + 2, n + 997, most + 1, math.MaxInt - 1, math.MaxInt,
	}
}

// eachAllowed visits triples that are allowed for Mod and Times.
func eachAllowed(visit func(n, k, p int)) {
	for _, n := range sizes {
		for _, k := range choices(n) {
			for _, p := range somePrimes {
				visit(n, k, p)
			}
		}
	}
}

// eachForbidden visits triples that are not allowed for Mod and Times.
func eachForbidden(visit func(n, k, p int)) {
	for _, p := range somePrimes {
		for _, n := range notSizes {
			for _, k := range []int{math.MinInt, n - 1, n, n + 1, -1, 0, 1, 2, most, math.MaxInt} {
				visit(n, k, p)
			}
		}
		for _, n := range sizes {
			for _, k := range notChoices(n) {
				visit(n, k, p)
			}
		}
	}
	for _, p := range notPrimes {
		for _, n := range slices.Concat(sizes, notSizes) {
			for _, k := range append(notChoices(n), 0, 1, n/2, n-1, n) {
				visit(n, k, p)
			}
		}
	}
}

// left returns the coefficient modulo p.
func left(coefficient *big.Int, p int) int {
	return int(new(big.Int).Mod(coefficient, big.NewInt(int64(p))).Int64())
}

// exponent divides the coefficient by p as often as that leaves nothing.
func exponent(coefficient *big.Int, p int) int {
	prime, rest := big.NewInt(int64(p)), new(big.Int)
	times := 0
	for c := new(big.Int).Set(coefficient); ; times++ {
		if c.QuoRem(c, prime, rest); rest.Sign() != 0 {
			return times
		}
	}
}

// carries adds k and n - k in base p, and counts the carries: by Kummer, there
// are as many as p divides the coefficient.
func carries(n, k, p int) int {
	count, carry := 0, 0
	for a, b := k, n-k; a+b+carry > 0; a, b = a/p, b/p {
		if carry += a%p + b%p; carry >= p {
			carry = 1
			count++
		} else {
			carry = 0
		}
	}
	return count
}

// factorials returns those of the numbers below p, modulo p.
func factorials(p int) []int {
	l := []int{1}
	for n := 1; n < p; n++ {
		l = append(l, l[n-1]*n%p)
	}
	return l
}

// unit returns the factorial of n modulo p, without its factors p: by Wilson,
// the numbers from a multiple of p to the next one have the product -1.
func unit(n, p int, small []int) int {
	product := 1
	for ; n > 0; n /= p {
		product = product * small[n%p] % p
		if n/p%2 == 1 {
			product = (p - product) % p
		}
	}
	return product
}

func checkOf(t *testing.T, n, k, want int) {
	t.Helper()
	if c, err := binom.Of(n, k); err != api.OK || c != want {
		t.Errorf("Of(%d, %d) = %d, %d, want %d", n, k, c, err, want)
	}
}

func checkMod(t *testing.T, n, k, p, want int) {
	t.Helper()
	if m, err := binom.Mod(n, k, p); err != api.OK || m != want {
		t.Errorf("Mod(%d, %d, %d) = %d, %d, want %d", n, k, p, m, err, want)
	}
}

func checkTimes(t *testing.T, n, k, p, want int) {
	t.Helper()
	if times, err := binom.Times(n, k, p); err != api.OK || times != want {
		t.Errorf("Times(%d, %d, %d) = %d, %d, want %d", n, k, p, times, err, want)
	}
}

// results of all functions, for one triple of arguments.
type results struct {
	of, mod, times          int
	ofErr, modErr, timesErr api.Errno
}

func call(n, k, p int) (r results) {
	r.of, r.ofErr = binom.Of(n, k)
	r.mod, r.modErr = binom.Mod(n, k, p)
	r.times, r.timesErr = binom.Times(n, k, p)
	return r
}

// eachTriple visits triples, allowed or not.
func eachTriple(visit func(n, k, p int)) {
	eachAllowed(visit)
	eachForbidden(visit)
}

func TestP1NoArgumentPanics(t *testing.T) {
	eachTriple(func(n, k, p int) {
		defer func() {
			if r := recover(); r != nil {
				t.Errorf("(%d, %d, %d) panics: %v", n, k, p, r)
			}
		}()
		call(n, k, p)
	})
}

func TestP2ResultsDependOnlyOnArguments(t *testing.T) {
	var first []results
	eachTriple(func(n, k, p int) { first = append(first, call(n, k, p)) })
	i := 0
	eachTriple(func(n, k, p int) {
		if again := call(n, k, p); again != first[i] {
			t.Errorf("(%d, %d, %d): first %+v, then %+v", n, k, p, first[i], again)
		}
		i++
	})
}

func TestP2OtherResultsAreZeroWithAnError(t *testing.T) {
	eachTriple(func(n, k, p int) {
		r := call(n, k, p)
		if r.ofErr != api.OK && r.of != 0 {
			t.Errorf("Of(%d, %d) = %d with error %d", n, k, r.of, r.ofErr)
		}
		if r.modErr != api.OK && r.mod != 0 {
			t.Errorf("Mod(%d, %d, %d) = %d with error %d", n, k, p, r.mod, r.modErr)
		}
		if r.timesErr != api.OK && r.times != 0 {
			t.Errorf("Times(%d, %d, %d) = %d with error %d", n, k, p, r.times, r.timesErr)
		}
	})
}

func TestP24Of(t *testing.T) {
	for _, c := range []struct{ n, k, want int }{
		{0, 0, 1},
		{0, 1, 0},
		{0, -1, 0},
		{1, 0, 1},
		{1, 1, 1},
		{1, 2, 0},
		{5, 2, 10},
		{6, 2, 15},
		{6, 3, 20},
		{6, 4, 15},
		{6, 6, 1},
		{6, 7, 0},
		{6, -1, 0},
		{52, 5, 2598960},
		{60, 0, 1},
		{60, 1, 60},
		{60, 29, 114449595062769120},
		{60, 30, 118264581564861424},
		{60, 31, 114449595062769120},
		{60, 60, 1},
		{60, 61, 0},
		{60, -1, 0},
		{60, math.MinInt, 0},
		{60, math.MaxInt, 0},
	} {
		checkOf(t, c.n, c.k, c.want)
	}
}

func TestP24OfEveryNumber(t *testing.T) {
	row := []int{1}
	for n := 0; n <= mostOf; n++ {
		for k, want := range row {
			checkOf(t, n, k, want)
		}
		for _, k := range notChoices(n) {
			checkOf(t, n, k, 0)
		}
		// By Pascal, each one of the next row is the sum of those above it.
		next := append(slices.Clone(row), 1)
		for k := 1; k <= n; k++ {
			next[k] += row[k-1]
		}
		row = next
	}
}

func TestP24Errors(t *testing.T) {
	// A wrong n comes first, whatever k is.
	for _, n := range append(slices.Clone(notSizes), mostOf+1, mostOf+2, 100, 1000, most) {
		for _, k := range append(notChoices(n), 0, 1, 2, n/2, n-1, n) {
			if c, err := binom.Of(n, k); err != api.ErrArg || c != 0 {
				t.Errorf("Of(%d, %d) = %d, %d, want error %d", n, k, c, err, api.ErrArg)
			}
		}
	}
}

func TestP25Mod(t *testing.T) {
	for _, c := range []struct{ n, k, p, want int }{
		{0, 0, 2, 1},
		{0, 0, 997, 1},
		{1, 0, 2, 1},
		{1, 1, 2, 1},
		{2, 1, 2, 0},
		{6, 2, 5, 0},
		{6, 2, 2, 1},
		{6, 2, 7, 1},
		{6, 2, 11, 4},
		{6, 2, 997, 15},
		{10, 3, 7, 1},
		{10, 5, 2, 0},
		{1000, 300, 7, 1},
		{996, 1, 997, 996},
		{997, 1, 997, 0},
		{998, 1, 997, 1},
		{994009, 997, 997, 0},
		{most, 0, 2, 1},
		{most, most, 997, 1},
		{most, 1, 2, 0},
		{most, 1, 3, 1},
		{most - 1, 1, 2, 1},
		{536870911, 178956970, 2, 1}, // n has the digit 1 everywhere
		{536870912, 178956970, 2, 0},
	} {
		checkMod(t, c.n, c.k, c.p, c.want)
	}
}

func TestP26Times(t *testing.T) {
	for _, c := range []struct{ n, k, p, want int }{
		{0, 0, 2, 0},
		{0, 0, 997, 0},
		{1, 1, 2, 0},
		{2, 1, 2, 1},
		{4, 1, 2, 2},
		{6, 2, 2, 0},
		{6, 2, 3, 1},
		{6, 2, 5, 1},
		{6, 2, 7, 0},
		{10, 5, 2, 2},
		{10, 5, 3, 2},
		{10, 5, 7, 1},
		{997, 1, 997, 1},
		{994009, 1, 997, 2},
		{994009, 997, 997, 1},
		{991026973, 1, 997, 3},
		{536870911, 178956970, 2, 0},
		{536870912, 1, 2, 29},
		{536870912, 268435456, 2, 1},
		{536870912, 268435455, 2, 29},
		{most, 1, 2, 9},
		{most, 1, 5, 9},
		{most, 1, 3, 0},
		{most, 0, 2, 0},
		{most, most, 2, 0},
	} {
		checkTimes(t, c.n, c.k, c.p, c.want)
	}
}

// checkByDivision compares Mod and Times with the coefficient itself.
func checkByDivision(t *testing.T, n, k int, primes []int) {
	t.Helper()
	coefficient := new(big.Int).Binomial(int64(n), int64(k))
	for _, p := range primes {
		checkMod(t, n, k, p, left(coefficient, p))
		checkTimes(t, n, k, p, exponent(coefficient, p))
	}
}

func TestP25P26OfSmallNumbers(t *testing.T) {
	primes := allPrimes()
	for n := range 65 {
		for k := range n + 1 {
			checkByDivision(t, n, k, primes)
		}
	}
	// Numbers of three digits in base 13, and of more in smaller ones.
	for n := 165; n <= 185; n++ {
		for k := range n + 1 {
			checkByDivision(t, n, k, []int{2, 3, 5, 7, 11, 13})
		}
	}
}

func TestP25P26AroundEveryPrime(t *testing.T) {
	for _, p := range allPrimes() {
		for _, n := range []int{p - 1, p, p + 1, 2*p - 1, 2 * p, 2*p + 1} {
			for _, k := range []int{0, 1, 2, p / 2, p - 1, p, p + 1, n - 2, n - 1, n} {
				if 0 <= k && k <= n {
					checkByDivision(t, n, k, []int{p})
				}
			}
		}
	}
}

func TestP25P26OfLargeNumbers(t *testing.T) {
	primes := allPrimes()
	for _, n := range []int{most, most - 1, 991026973, 536870911, 994009, 20000} {
		for _, k := range []int{0, 1, 2, 3, 29, 60, 997, 1100} {
			checkByDivision(t, n, k, primes)
			checkByDivision(t, n, n-k, somePrimes)
		}
	}
	for _, k := range []int{6666, 9999, 10000, 10001, 13000} {
		checkByDivision(t, 20000, k, primes)
	}
}

func TestP25P26ByOtherTheorems(t *testing.T) {
	small := map[int][]int{}
	for _, p := range somePrimes {
		small[p] = factorials(p)
	}
	eachAllowed(func(n, k, p int) {
		times := carries(n, k, p)
		checkTimes(t, n, k, p, times)
		if times > 0 {
			checkMod(t, n, k, p, 0)
			return
		}
		// The product with the other factorials has to be that of n.
		m, err := binom.Mod(n, k, p)
		product := m * unit(k, p, small[p]) % p * unit(n-k, p, small[p]) % p
		if err != api.OK || m < 0 || m >= p || product != unit(n, p, small[p]) {
			t.Errorf("Mod(%d, %d, %d) = %d, %d", n, k, p, m, err)
		}
	})
}

func TestP25Errors(t *testing.T) {
	eachForbidden(func(n, k, p int) {
		if m, err := binom.Mod(n, k, p); err != api.ErrArg || m != 0 {
			t.Errorf("Mod(%d, %d, %d) = %d, %d, want error %d", n, k, p, m, err, api.ErrArg)
		}
	})
}

func TestP26Errors(t *testing.T) {
	eachForbidden(func(n, k, p int) {
		if times, err := binom.Times(n, k, p); err != api.ErrArg || times != 0 {
			t.Errorf("Times(%d, %d, %d) = %d, %d, want error %d", n, k, p, times, err, api.ErrArg)
		}
	})
}

func TestP25P26EveryPrimeOrNot(t *testing.T) {
	primes := allPrimes()
	for p := -50; p <= api.MaxSmall+100; p++ {
		want := api.ErrArg
		if slices.Contains(primes, p) {
			want = api.OK
		}
		if _, err := binom.Mod(60, 30, p); err != want {
			t.Errorf("Mod(60, 30, %d): error %d, want %d", p, err, want)
		}
		if _, err := binom.Times(60, 30, p); err != want {
			t.Errorf("Times(60, 30, %d): error %d, want %d", p, err, want)
		}
	}
}
