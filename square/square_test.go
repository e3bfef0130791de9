package square_test

import (
	"math"
	"math/big"
	"testing"

	"wholemend/api"
	"wholemend/square"
)

const most = api.MaxMod

// largest is the greatest prime up to most.
const largest = 999983

// numbers are those that are tried for a, where every number is allowed.
var numbers = []int{
	math.MinInt, math.MinInt + 1, math.MinInt32, -api.MaxInt - 1, -most - 1, -most,
	-largest, -7, -4, -3, -2, -1, 0, 1, 2, 3, 4, 5, 7, 9, 10, 15, 16, 997, 994009,
	largest - 1, largest, largest + 1, most - 1, most, most + 1, api.MaxInt + 1,
	math.MaxInt32, math.MaxInt - 1, math.MaxInt,
}

// moduli are allowed for Symbol, up to the bounds; notModuli are not.
var (
	moduli = []int{
		1, 3, 5, 7, 9, 11, 13, 15, 17, 21, 25, 27, 45, 81, 97, 105, 225, 561, 1001,
		6561, 65537, 255255, 531441, 786433, 994009, 998001, 999981, largest, most - 1,
	}
	notModuli = []int{
		math.MinInt, math.MinInt + 1, math.MinInt32, -most - 1, -most, 1 - most, -15, -7,
		-3, -2, -1, 0, 2, 4, 6, 8, 14, 1000, 65536, most - 2, most, most + 1, most + 2,
		1000003, api.MaxInt, api.MaxInt + 1, math.MaxInt32, math.MaxInt - 1, math.MaxInt,
	}
)

// manyTwos are primes p for which a high power of two divides p - 1.
var manyTwos = []int{17, 97, 193, 257, 7681, 12289, 40961, 65537, 786433}

// somePrimes are allowed for Root, up to the bounds; notPrimes are not.
var (
	somePrimes = append([]int{2, 3, 5, 7, 11, 13, 41, 101, 997, 1009, 999979, largest}, manyTwos...)
	notPrimes  = []int{
		math.MinInt, math.MinInt + 1, math.MinInt32, -largest, -7, -3, -2, -1, 0, 1, 4,
		6, 8, 9, 15, 21, 25, 49, 561, 1000, 1105, 524288, 994009, 999981, most - 1, most,
		most + 1, 1000003, 1000033, api.MaxInt, math.MaxInt32, math.MaxInt - 1, math.MaxInt,
	}
)

// sums are allowed for Two, up to the bounds; notSums are not.
var (
	sums = []int{
		0, 1, 2, 3, 4, 5, 6, 7, 8, 9, 21, 25, 50, 65, 325, 1105, 524288, 994009,
		largest, 999949, most - 1, most,
	}
	notSums = []int{
		math.MinInt, math.MinInt + 1, math.MinInt32, -most, -25, -4, -2, -1,
		most + 1, most + 2, 1002001, api.MaxInt, math.MaxInt32, 1 << 60,
		math.MaxInt - 1, math.MaxInt,
	}
)

// primesUpTo returns all primes up to n.
func primesUpTo(n int) []int {
	composite := make([]bool, n+1)
	var primes []int
	for p := 2; p <= n; p++ {
		if composite[p] {
			continue
		}
		primes = append(primes, p)
		for m := p * p; m <= n; m += p {
			composite[m] = true
		}
	}
	return primes
}

// leftOf returns a mod m, by numbers that have no bounds.
func leftOf(a, m int) int {
	return int(new(big.Int).Mod(big.NewInt(int64(a)), big.NewInt(int64(m))).Int64())
}

// searchRoot tries every number; it tells whether one of them fits.
func searchRoot(a, p int) (int, bool) {
	a = leftOf(a, p)
	for r := range p {
		if r*r%p == a {
			return r, true
		}
	}
	return 0, false
}

// searchSymbol multiplies the Legendre symbols, as they are defined.
func searchSymbol(a, n int) int {
	symbol := 1
	for p := 2; n > 1; p++ {
		for ; n%p == 0; n /= p {
			if _, is := searchRoot(a, p); leftOf(a, p) == 0 {
				symbol = 0
			} else if !is {
				symbol = -symbol
			}
		}
	}
	return symbol
}

// knownRoot returns what Root has to, by the standard library, whose roots are
// for odd primes.
func knownRoot(a, p int) (int, api.Errno) {
	if p == 2 {
		return leftOf(a, p), api.OK
	}
	prime := big.NewInt(int64(p))
	x := new(big.Int).ModSqrt(big.NewInt(int64(leftOf(a, p))), prime)
	if x == nil {
		return 0, api.ErrNone
	}
	root := int(x.Int64())
	return min(root, (p-root)%p), api.OK
}

func checkSymbol(t *testing.T, a, n, want int) {
	t.Helper()
	if s, err := square.Symbol(a, n); err != api.OK || s != want {
		t.Errorf("Symbol(%d, %d) = %d, %d, want %d", a, n, s, err, want)
	}
}

func checkRoot(t *testing.T, a, p, want int, wantErr api.Errno) {
	t.Helper()
	if r, err := square.Root(a, p); err != wantErr || r != want {
		t.Errorf("Root(%d, %d) = %d, %d, want %d, %d", a, p, r, err, want, wantErr)
	}
}

func checkTwo(t *testing.T, n, wantLow, wantHigh int, wantErr api.Errno) {
	t.Helper()
	if low, high, err := square.Two(n); err != wantErr || low != wantLow || high != wantHigh {
		t.Errorf("Two(%d) = %d, %d, %d, want %d, %d, %d",
			n, low, high, err, wantLow, wantHigh, wantErr)
	}
}

// results of all functions, for one pair of arguments.
type results struct {
	symbol, root, low, high    int
	symbolErr, rootErr, twoErr api.Errno
}

func call(a, n int) (r results) {
	r.symbol, r.symbolErr = square.Symbol(a, n)
	r.root, r.rootErr = square.Root(a, n)
	r.low, r.high, r.twoErr = square.Two(n)
	return r
}

// eachPair visits all pairs, allowed or not.
func eachPair(visit func(a, n int)) {
	for _, list := range [][]int{moduli, notModuli, somePrimes, notPrimes, sums, notSums} {
		for _, n := range list {
			for _, a := range numbers {
				visit(a, n)
			}
		}
	}
}

func TestP1NoArgumentPanics(t *testing.T) {
	eachPair(func(a, n int) {
		defer func() {
			if r := recover(); r != nil {
				t.Errorf("(%d, %d) panics: %v", a, n, r)
			}
		}()
		call(a, n)
	})
}

func TestP2ResultsDependOnlyOnArguments(t *testing.T) {
	var first []results
	eachPair(func(a, n int) { first = append(first, call(a, n)) })
	i := 0
	eachPair(func(a, n int) {
		if again := call(a, n); again != first[i] {
			t.Errorf("(%d, %d): first %+v, then %+v", a, n, first[i], again)
		}
		i++
	})
}

func TestP2OtherResultsAreZeroWithAnError(t *testing.T) {
	eachPair(func(a, n int) {
		r := call(a, n)
		if r.symbolErr != api.OK && r.symbol != 0 {
			t.Errorf("Symbol(%d, %d) = %d with error %d", a, n, r.symbol, r.symbolErr)
		}
		if r.rootErr != api.OK && r.root != 0 {
			t.Errorf("Root(%d, %d) = %d with error %d", a, n, r.root, r.rootErr)
		}
		if r.twoErr != api.OK && (r.low != 0 || r.high != 0) {
			t.Errorf("Two(%d) = %d, %d with error %d", n, r.low, r.high, r.twoErr)
		}
	})
}

func TestP21Symbol(t *testing.T) {
	for _, c := range []struct{ a, n, want int }{
		{0, 1, 1},
		{1, 1, 1},
		{5, 1, 1},
		{-5, 1, 1},
		{0, 3, 0},
		{0, 9, 0},
		{1, 3, 1},
		{2, 3, -1},
		{3, 3, 0},
		{-1, 3, -1},
		{-1, 5, 1},
		{-1, 7, -1},
		{2, 7, 1},
		{3, 7, -1},
		{10, 7, -1},
		{7, 7, 0},
		{2, 9, 1}, // not a square modulo 9, but 3 divides it twice
		{6, 9, 0},
		{2, 15, 1}, // a square modulo neither 3 nor 5
		{7, 15, -1},
		{5, 15, 0},
		{5, 21, 1},
		{2, 91, -1}, // a square modulo 7, not modulo 13
		{30, 91, 1},
		{1001, 9907, -1},
		{-1, largest, -1},
		{2, largest, 1},
		{largest, largest, 0},
		{-1, most - 1, -1},
	} {
		checkSymbol(t, c.a, c.n, c.want)
	}
}

func TestP21SymbolOfSmallNumbers(t *testing.T) {
	for n := 1; n <= 135; n += 2 {
		for a := -2 * n; a <= 2*n; a++ {
			checkSymbol(t, a, n, searchSymbol(a, n))
		}
	}
}

func TestP21SymbolOfLargeNumbers(t *testing.T) {
	check := func(a, n int) {
		checkSymbol(t, a, n, big.Jacobi(big.NewInt(int64(a)), big.NewInt(int64(n))))
	}
	for _, n := range moduli {
		for _, a := range numbers {
			check(a, n)
		}
	}
	for n := most - 201; n < most; n += 2 {
		for a := -200; a <= 200; a++ {
			check(a, n)
			check(a+most/3, n)
			check(a-math.MaxInt/3, n)
		}
	}
}

func TestP21Errors(t *testing.T) {
	for _, n := range notModuli {
		for _, a := range numbers {
			if _, err := square.Symbol(a, n); err != api.ErrArg {
				t.Errorf("Symbol(%d, %d): error %d, want %d", a, n, err, api.ErrArg)
			}
		}
	}
}

func TestP22Root(t *testing.T) {
	for _, c := range []struct{ a, p, want int }{
		{0, 2, 0},
		{1, 2, 1},
		{2, 2, 0},
		{-1, 2, 1},
		{math.MinInt, 2, 0},
		{math.MaxInt, 2, 1},
		{0, 3, 0},
		{1, 3, 1},
		{-2, 3, 1},
		{0, 7, 0},
		{7, 7, 0},
		{-7, 7, 0},
		{1, 7, 1},
		{2, 7, 3},
		{4, 7, 2},
		{9, 7, 3},
		{-3, 7, 2},
		{-1, 5, 2},
		{-1, 13, 5},
		{2, 17, 6},
		{-1, 17, 4},
		{-1, 65537, 256},
		{0, largest, 0},
		{4, largest, 2},
		{994009, largest, 997},
		{largest, largest, 0},
		{(largest - 1) / 2 * ((largest - 1) / 2), largest, (largest - 1) / 2},
	} {
		checkRoot(t, c.a, c.p, c.want, api.OK)
	}
}

func TestP22RootOfSmallNumbers(t *testing.T) {
	for _, p := range primesUpTo(200) {
		for a := -p; a <= 2*p; a++ {
			want, ok := searchRoot(a, p)
			wantErr := api.OK
			if !ok {
				wantErr = api.ErrNone
			}
			checkRoot(t, a, p, want, wantErr)
		}
	}
}

func TestP22RootOfAllowedNumbers(t *testing.T) {
	for _, p := range somePrimes {
		for _, a := range numbers {
			want, wantErr := knownRoot(a, p)
			checkRoot(t, a, p, want, wantErr)
		}
	}
}

func TestP22RootOfEverySquare(t *testing.T) {
	for _, p := range manyTwos {
		squares := make([]bool, p)
		for r := 0; r <= p/2; r++ {
			squares[r*r%p] = true
			// A square has no smaller root than one up to p/2.
			checkRoot(t, r*r, p, r, api.OK)
		}
		// For a large prime, a part of the others is enough.
		for a := 0; a < p; a += 1 + p/10000 {
			if !squares[a] {
				checkRoot(t, a, p, 0, api.ErrNone)
			}
		}
	}
}

func TestP22RootForEveryPrime(t *testing.T) {
	for _, p := range primesUpTo(api.MaxPrime) {
		checkRoot(t, 0, p, 0, api.OK)
		for _, r := range []int{1, p / 3, p / 2} {
			checkRoot(t, r*r, p, r, api.OK)
		}
		// -1 is a square if 4 divides p - 1, and 3 is one if p is 1 or 11
		// modulo 12.
		if _, err := square.Root(-1, p); (err == api.OK) != (p%4 != 3) {
			t.Errorf("Root(-1, %d): error %d", p, err)
		}
		is := p <= 3 || p%12 == 1 || p%12 == 11
		if _, err := square.Root(3, p); (err == api.OK) != is {
			t.Errorf("Root(3, %d): error %d", p, err)
		}
	}
}

func TestP22NoPrime(t *testing.T) {
	// A wrong p comes first, whether a is a square or not.
	for _, p := range notPrimes {
		for _, a := range numbers {
			checkRoot(t, a, p, 0, api.ErrArg)
		}
	}
}

func TestP22NoRoot(t *testing.T) {
	for _, c := range [][2]int{
		{2, 3}, {-1, 3}, {2, 5}, {3, 5}, {3, 7}, {-1, 7}, {10, 7}, {3, 17}, {3, 65537},
		{-1, largest}, {-4, largest}, {largest - 1, largest}, {5, largest},
	} {
		checkRoot(t, c[0], c[1], 0, api.ErrNone)
	}
}

func TestP23Two(t *testing.T) {
	for _, c := range []struct{ n, low, high int }{
		{0, 0, 0},
		{1, 0, 1},
		{2, 1, 1},
		{4, 0, 2},
		{5, 1, 2},
		{8, 2, 2},
		{25, 0, 5},   // 3 and 4, too
		{50, 1, 7},   // 5 and 5, too
		{65, 1, 8},   // 4 and 7, too
		{85, 2, 9},   // 6 and 7, too
		{325, 1, 18}, // 6 and 17, and 10 and 15, too
		{524288, 512, 512},
		{994009, 0, 997},
		{most, 0, 1000},
	} {
		checkTwo(t, c.n, c.low, c.high, api.OK)
	}
}

// pairs returns, for each sum up to most, the pair with the smallest first
// number, which is -1 if there is none.
func pairs() [][2]int {
	l := make([][2]int, most+1)
	for n := range l {
		l[n] = [2]int{-1, 0}
	}
	for low := 1000; low >= 0; low-- {
		for high := low; low*low+high*high <= most; high++ {
			l[low*low+high*high] = [2]int{low, high}
		}
	}
	return l
}

func TestP23TwoOfEveryNumber(t *testing.T) {
	for n, pair := range pairs() {
		if pair[0] < 0 {
			checkTwo(t, n, 0, 0, api.ErrNone)
		} else {
			checkTwo(t, n, pair[0], pair[1], api.OK)
		}
	}
}

func TestP23NoPair(t *testing.T) {
	for _, n := range []int{3, 6, 7, 11, 12, 21, 27, 999, largest, most - 1} {
		checkTwo(t, n, 0, 0, api.ErrNone)
	}
}

func TestP23Errors(t *testing.T) {
	for _, n := range notSums {
		checkTwo(t, n, 0, 0, api.ErrArg)
	}
}
