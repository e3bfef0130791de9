package rest_test

import (
	"math"
	"math/big"
	"testing"

	"wholemend/api"
	"wholemend/rest"
)

const most = api.MaxMod

// largest is the greatest prime up to most.
const largest = 999983

// numbers are those that are tried for a, where every number is allowed.
var numbers = []int{
	math.MinInt, math.MinInt + 1, math.MinInt32, -api.MaxInt - 1, -most - 1, -most,
	1 - most, -7, -2, -1, 0, 1, 2, 3, 4, 6, 7, 10, 999, most - 1, most, most + 1,
	api.MaxInt + 1, math.MaxInt32, math.MaxInt - 1, math.MaxInt,
}

// moduli are allowed, up to the bounds; notModuli are not.
var (
	moduli = []int{
		1, 2, 3, 4, 6, 7, 8, 12, 97, 561, 1000, 65536, 510510, 524288,
		994009, largest, most - 1, most,
	}
	notModuli = []int{
		math.MinInt, math.MinInt + 1, math.MinInt32, -most, -7, -2, -1, 0,
		most + 1, most + 2, api.MaxInt, math.MaxInt32, math.MaxInt - 1, math.MaxInt,
	}
)

// exponents are allowed, up to the bounds; notExponents are not.
var (
	exponents = []int{
		0, 1, 2, 3, 4, 5, 63, 64, 100, most, most + 1, api.MaxInt, api.MaxInt + 1,
		math.MaxInt32, 1 << 40, math.MaxInt - 1, math.MaxInt,
	}
	notExponents = []int{math.MinInt, math.MinInt + 1, math.MinInt32, -2, -1}
)

// small is the bound of the moduli that are all compared with a search.
const small = 60

func eachSmallPair(visit func(a, m int)) {
	for m := 1; m <= small; m++ {
		for a := -2 * small; a <= 2*small; a++ {
			visit(a, m)
		}
	}
}

func eachAllowedPair(visit func(a, m int)) {
	for _, m := range moduli {
		for _, a := range numbers {
			visit(a, m)
		}
	}
}

func eachForbiddenPair(visit func(a, m int)) {
	for _, m := range notModuli {
		for _, a := range numbers {
			visit(a, m)
		}
	}
}

// eachTriple visits all triples, allowed or not.
func eachTriple(visit func(a, n, m int)) {
	visitAll := func(a, m int) {
		for _, n := range exponents {
			visit(a, n, m)
		}
		for _, n := range notExponents {
			visit(a, n, m)
		}
	}
	eachAllowedPair(visitAll)
	eachForbiddenPair(visitAll)
}

// wantOf returns a mod m, by numbers that have no bounds.
func wantOf(a, m int) int {
	return int(new(big.Int).Mod(big.NewInt(int64(a)), big.NewInt(int64(m))).Int64())
}

// wantPow returns a^n mod m, by numbers that have no bounds.
func wantPow(a, n, m int) int {
	base := big.NewInt(int64(wantOf(a, m)))
	return int(new(big.Int).Exp(base, big.NewInt(int64(n)), big.NewInt(int64(m))).Int64())
}

// searchInverse tries every number; it tells whether one of them fits.
func searchInverse(a, m int) (int, bool) {
	for x := range m {
		if wantOf(wantOf(a, m)*x, m) == wantOf(1, m) {
			return x, true
		}
	}
	return 0, false
}

// searchOrder multiplies until there is 1, which an a with an inverse reaches.
func searchOrder(a, m int) int {
	a = wantOf(a, m)
	k, x := 1, a
	for x != 1%m {
		k, x = k+1, x*a%m
	}
	return k
}

func hasInverse(a, m int) bool {
	gcd := new(big.Int).GCD(nil, nil, big.NewInt(int64(wantOf(a, m))), big.NewInt(int64(m)))
	return gcd.Int64() == 1
}

// results of all functions, for one triple of arguments.
type results struct {
	of, pow, inverse, order             int
	ofErr, powErr, inverseErr, orderErr api.Errno
}

func call(a, n, m int) (r results) {
	r.of, r.ofErr = rest.Of(a, m)
	r.pow, r.powErr = rest.Pow(a, n, m)
	r.inverse, r.inverseErr = rest.Inverse(a, m)
	r.order, r.orderErr = rest.Order(a, m)
	return r
}

func TestP1NoArgumentPanics(t *testing.T) {
	eachTriple(func(a, n, m int) {
		defer func() {
			if r := recover(); r != nil {
				t.Errorf("(%d, %d, %d) panics: %v", a, n, m, r)
			}
		}()
		call(a, n, m)
	})
}

func TestP2ResultsDependOnlyOnArguments(t *testing.T) {
	var first []results
	eachTriple(func(a, n, m int) { first = append(first, call(a, n, m)) })
	i := 0
	eachTriple(func(a, n, m int) {
		if again := call(a, n, m); again != first[i] {
			t.Errorf("(%d, %d, %d): first %+v, then %+v", a, n, m, first[i], again)
		}
		i++
	})
}

func TestP2OtherResultsAreZeroWithAnError(t *testing.T) {
	eachTriple(func(a, n, m int) {
		r := call(a, n, m)
		if r.ofErr != api.OK && r.of != 0 {
			t.Errorf("Of(%d, %d) = %d with error %d", a, m, r.of, r.ofErr)
		}
		if r.powErr != api.OK && r.pow != 0 {
			t.Errorf("Pow(%d, %d, %d) = %d with error %d", a, n, m, r.pow, r.powErr)
		}
		if r.inverseErr != api.OK && r.inverse != 0 {
			t.Errorf("Inverse(%d, %d) = %d with error %d", a, m, r.inverse, r.inverseErr)
		}
		if r.orderErr != api.OK && r.order != 0 {
			t.Errorf("Order(%d, %d) = %d with error %d", a, m, r.order, r.orderErr)
		}
	})
}

func TestP9OfAllowedPairs(t *testing.T) {
	check := func(a, m int) {
		if r, err := rest.Of(a, m); err != api.OK || r != wantOf(a, m) {
			t.Errorf("Of(%d, %d) = %d, %d, want %d", a, m, r, err, wantOf(a, m))
		}
	}
	eachSmallPair(check)
	eachAllowedPair(check)
}

func TestP9Of(t *testing.T) {
	for _, c := range []struct{ a, m, want int }{
		{0, 1, 0},
		{5, 1, 0},
		{-5, 1, 0},
		{6, 7, 6},
		{7, 7, 0},
		{8, 7, 1},
		{-1, 7, 6},
		{-7, 7, 0},
		{-8, 7, 6},
		{-1, most, most - 1},
		{most, most, 0},
		{-most, most, 0},
		{math.MaxInt, most, 775807},
		{math.MinInt, most, 224192},
	} {
		if r, err := rest.Of(c.a, c.m); err != api.OK || r != c.want {
			t.Errorf("Of(%d, %d) = %d, %d, want %d", c.a, c.m, r, err, c.want)
		}
	}
}

func TestP9Errors(t *testing.T) {
	eachForbiddenPair(func(a, m int) {
		if _, err := rest.Of(a, m); err != api.ErrArg {
			t.Errorf("Of(%d, %d): error %d, want %d", a, m, err, api.ErrArg)
		}
	})
}

func TestP10PowOfSmallNumbers(t *testing.T) {
	eachSmallPair(func(a, m int) {
		want := 1 % m
		for n := range 20 {
			if x, err := rest.Pow(a, n, m); err != api.OK || x != want {
				t.Errorf("Pow(%d, %d, %d) = %d, %d, want %d", a, n, m, x, err, want)
			}
			want = wantOf(want*wantOf(a, m), m)
		}
	})
}

func TestP10PowOfAllowedPairs(t *testing.T) {
	eachAllowedPair(func(a, m int) {
		for _, n := range exponents {
			if x, err := rest.Pow(a, n, m); err != api.OK || x != wantPow(a, n, m) {
				t.Errorf("Pow(%d, %d, %d) = %d, %d, want %d", a, n, m, x, err, wantPow(a, n, m))
			}
		}
	})
}

func TestP10Pow(t *testing.T) {
	for _, c := range []struct{ a, n, m, want int }{
		{0, 0, 1, 0},
		{5, 0, 1, 0},
		{5, 3, 1, 0},
		{0, 0, 7, 1},
		{7, 0, 7, 1},
		{-3, 0, 7, 1},
		{0, 1, 7, 0},
		{0, 5, 7, 0},
		{2, 1, 7, 2},
		{2, 10, 1000, 24},
		{-2, 3, 7, 6},
		{-1, math.MaxInt, most, most - 1},
		{-1, math.MaxInt - 1, most, 1},
		{most - 1, 2, most, 1},
		{5, largest - 1, largest, 1},
		{5, (largest - 1) / 2, largest, largest - 1},
	} {
		if x, err := rest.Pow(c.a, c.n, c.m); err != api.OK || x != c.want {
			t.Errorf("Pow(%d, %d, %d) = %d, %d, want %d", c.a, c.n, c.m, x, err, c.want)
		}
	}
}

func TestP10Errors(t *testing.T) {
	check := func(a, n, m int) {
		if _, err := rest.Pow(a, n, m); err != api.ErrArg {
			t.Errorf("Pow(%d, %d, %d): error %d, want %d", a, n, m, err, api.ErrArg)
		}
	}
	eachForbiddenPair(func(a, m int) {
		for _, n := range exponents {
			check(a, n, m)
		}
		for _, n := range notExponents {
			check(a, n, m)
		}
	})
	eachAllowedPair(func(a, m int) {
		for _, n := range notExponents {
			check(a, n, m)
		}
	})
}

func TestP11InverseOfSmallNumbers(t *testing.T) {
	eachSmallPair(func(a, m int) {
		want, ok := searchInverse(a, m)
		wantErr := api.OK
		if !ok {
			wantErr = api.ErrNone
		}
		if x, err := rest.Inverse(a, m); err != wantErr || x != want {
			t.Errorf("Inverse(%d, %d) = %d, %d, want %d, %d", a, m, x, err, want, wantErr)
		}
	})
}

// checkInverse checks the properties that leave one right result.
func checkInverse(t *testing.T, a, m int) {
	x, err := rest.Inverse(a, m)
	if !hasInverse(a, m) {
		if x != 0 || err != api.ErrNone {
			t.Errorf("Inverse(%d, %d) = %d, %d, want error %d", a, m, x, err, api.ErrNone)
		}
		return
	}
	if err != api.OK || x < 0 || x >= m || wantOf(wantOf(a, m)*x, m) != 1%m {
		t.Errorf("Inverse(%d, %d) = %d, %d", a, m, x, err)
	}
}

func TestP11InverseOfAllowedPairs(t *testing.T) {
	eachAllowedPair(func(a, m int) { checkInverse(t, a, m) })
	for m := most - 100; m <= most; m++ {
		for a := -500; a <= 500; a++ {
			checkInverse(t, a, m)
			checkInverse(t, a+most/3, m)
			checkInverse(t, a-math.MaxInt/3, m)
		}
	}
}

func TestP11Inverse(t *testing.T) {
	for _, c := range []struct{ a, m, want int }{
		{0, 1, 0},
		{1, 1, 0},
		{5, 1, 0},
		{-5, 1, 0},
		{1, 2, 1},
		{1, 7, 1},
		{3, 7, 5},
		{-3, 7, 2},
		{6, 7, 6},
		{10, 7, 5},
		{-1, most, most - 1},
		{3, most, 666667},
		{math.MaxInt, 8, 7},
	} {
		if x, err := rest.Inverse(c.a, c.m); err != api.OK || x != c.want {
			t.Errorf("Inverse(%d, %d) = %d, %d, want %d", c.a, c.m, x, err, c.want)
		}
	}
}

// noInverse are pairs of a and m that have a divisor in common.
var noInverse = [][2]int{
	{0, 2}, {0, 7}, {2, 2}, {7, 7}, {-7, 7}, {14, 7}, {4, 6}, {-4, 6}, {3, 6},
	{0, most}, {5, most}, {most, most}, {largest, largest}, {-largest, largest},
	{0, largest}, {math.MinInt, most}, {math.MinInt, 2}, {997, 994009},
}

func TestP11Errors(t *testing.T) {
	// A wrong modulus comes first, even if there is no inverse either.
	eachForbiddenPair(func(a, m int) {
		if _, err := rest.Inverse(a, m); err != api.ErrArg {
			t.Errorf("Inverse(%d, %d): error %d, want %d", a, m, err, api.ErrArg)
		}
	})
	for _, c := range noInverse {
		if _, err := rest.Inverse(c[0], c[1]); err != api.ErrNone {
			t.Errorf("Inverse(%d, %d): error %d, want %d", c[0], c[1], err, api.ErrNone)
		}
	}
}

// checkOrder compares with a search, which ends for an a with an inverse.
func checkOrder(t *testing.T, a, m int) {
	want, wantErr := 0, api.ErrNone
	if hasInverse(a, m) {
		want, wantErr = searchOrder(a, m), api.OK
	}
	if k, err := rest.Order(a, m); err != wantErr || k != want {
		t.Errorf("Order(%d, %d) = %d, %d, want %d, %d", a, m, k, err, want, wantErr)
	}
}

func TestP12OrderOfPairs(t *testing.T) {
	eachSmallPair(func(a, m int) { checkOrder(t, a, m) })
	eachAllowedPair(func(a, m int) { checkOrder(t, a, m) })
	for m := small; m <= 1000; m += 7 {
		for a := range m {
			checkOrder(t, a, m)
		}
	}
	for m := most - 20; m <= most; m++ {
		for a := 2; a <= 20; a++ {
			checkOrder(t, a, m)
		}
	}
}

func TestP12Order(t *testing.T) {
	for _, c := range []struct{ a, m, want int }{
		{0, 1, 1},
		{5, 1, 1},
		{-5, 1, 1},
		{1, 2, 1},
		{1, 7, 1},
		{2, 7, 3},
		{3, 7, 6},
		{6, 7, 2},
		{-1, 7, 2},
		{10, 7, 6},
		{3, 8, 2},
		{1, most, 1},
		{-1, most, 2},
		{3, most, 50000},
		{3, 524288, 131072},
		{5, largest, largest - 1},
		{25, largest, (largest - 1) / 2},
		{-1, largest, 2},
	} {
		if k, err := rest.Order(c.a, c.m); err != api.OK || k != c.want {
			t.Errorf("Order(%d, %d) = %d, %d, want %d", c.a, c.m, k, err, c.want)
		}
	}
}

func TestP12Errors(t *testing.T) {
	// A wrong modulus comes first, even if there is no order either.
	eachForbiddenPair(func(a, m int) {
		if _, err := rest.Order(a, m); err != api.ErrArg {
			t.Errorf("Order(%d, %d): error %d, want %d", a, m, err, api.ErrArg)
		}
	})
	for _, c := range noInverse {
		if _, err := rest.Order(c[0], c[1]); err != api.ErrNone {
			t.Errorf("Order(%d, %d): error %d, want %d", c[0], c[1], err, api.ErrNone)
		}
	}
}
