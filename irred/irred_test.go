package irred_test

import (
	"math"
	"math/big"
	"slices"
	"testing"

	"wholemend/api"
	"wholemend/irred"
)

const most = api.MaxTerms

// limit is how many coefficients Is allows modulo p, and the greatest n of
// First and Count.
type limit struct{ p, terms, n int }

// limits are those of some fields, worked out by hand.
var limits = []limit{
	{2, 37, 19}, {3, 23, 12}, {5, 15, 8}, {7, 13, 7}, {11, 9, 5}, {13, 9, 5}, {17, 7, 4}, {19, 7, 4}, {31, 7, 4},
	{37, 5, 3}, {97, 5, 3}, {101, 3, 2}, {499, 3, 2}, {991, 3, 2}, {api.MaxField, 3, 2},
}

// notFields are some that are not allowed.
var notFields = []int{
	math.MinInt, math.MinInt + 1, math.MinInt32, -997, -7, -2, -1, 0, 1, 4, 6, 9, 15, 25, 256,
	961, 996, 998, 999, 1001, 1009, 65537, 999983, api.MaxPrime, 1000003, 1000000007, math.MaxInt,
}

// wrong is a list that Is does not allow.
type wrong struct {
	f   []int
	err api.Errno
}

// numbers returns a function for numbers from 0 to below - 1, always the same.
func numbers() func(below int) int {
	seed := uint32(1)
	return func(below int) int {
		seed = seed*1664525 + 1013904223
		return int(seed>>8) % below
	}
}

// someOf returns a polynomial with so many coefficients.
func someOf(p, count int, next func(below int) int) []int {
	f := make([]int, count)
	for i := range f {
		f[i] = next(p)
	}
	if count > 0 {
		f[count-1] = 1 + next(p-1)
	}
	return f
}

// eachMonic visits all monic polynomials with n + 1 coefficients in the order
// of P44, until a visit returns false.
func eachMonic(p, n int, visit func(f []int) bool) {
	f := make([]int, n+1)
	f[n] = 1
	for visit(f) {
		i := 0
		for i < n && f[i] == p-1 {
			f[i] = 0
			i++
		}
		if i == n {
			return
		}
		f[i]++
	}
}

// times returns the product of two polynomials that are not 0.
func times(p int, f, g []int) []int {
	product := make([]int, len(f)+len(g)-1)
	for i, a := range f {
		for j, b := range g {
			product[i+j] = (product[i+j] + a*b) % p
		}
	}
	return product
}

// scale returns the polynomial times a number.
func scale(p int, f []int, by int) []int {
	return times(p, f, []int{by})
}

// divides tells whether the monic polynomial g divides f.
func divides(p int, g, f []int) bool {
	f = slices.Clone(f)
	for len(f) >= len(g) {
		last := f[len(f)-1]
		for i, c := range g {
			place := len(f) - len(g) + i
			f[place] = (f[place] + (p-last)*c) % p
		}
		f = f[:len(f)-1]
	}
	return !slices.ContainsFunc(f, func(c int) bool { return c != 0 })
}

// search tells whether f is irreducible, by all polynomials up to half its
// degree.
func search(p int, f []int) bool {
	if len(f) < 2 {
		return false
	}
	found := false
	for n := 1; n <= (len(f)-1)/2 && !found; n++ {
		eachMonic(p, n, func(g []int) bool {
			found = divides(p, g, f)
			return !found
		})
	}
	return !found
}

// key returns a map's key for a polynomial.
func key(f []int) string {
	var b []byte
	for _, c := range f {
		b = append(b, byte(c), byte(c>>8))
	}
	return string(b)
}

// products returns all monic polynomials with up to n + 1 coefficients that are
// products.
func products(p, n int) map[string]bool {
	all := map[string]bool{}
	for a := 1; a <= n/2; a++ {
		for b := a; a+b <= n; b++ {
			eachMonic(p, a, func(f []int) bool {
				eachMonic(p, b, func(g []int) bool {
					all[key(times(p, f, g))] = true
					return true
				})
				return true
			})
		}
	}
	return all
}

// polynomials are some that Is allows.
func polynomials(l limit) [][]int {
	next := numbers()
	all := [][]int{
		nil, {}, {1}, {l.p - 1}, {0, 1}, {0, l.p - 1}, {1, 1}, {l.p - 1, l.p - 1}, {1, 0, 1}, {1, 1, 1},
		{0, 0, 1}, {0, 1, 1}, {l.p - 1, 0, l.p - 1},
		slices.Repeat([]int{1}, l.terms), slices.Repeat([]int{l.p - 1}, l.terms),
		append(make([]int, l.terms-1), 1), append([]int{1}, append(make([]int, l.terms-2), 1)...),
	}
	for count := range l.terms + 1 {
		all = append(all, someOf(l.p, count, next), someOf(l.p, count, next))
	}
	return all
}

// wrongs are lists that Is does not allow, with what is wrong first.
func wrongs(l limit) []wrong {
	p := l.p
	all := []wrong{
		{[]int{0}, api.ErrForm},
		{[]int{0, 0}, api.ErrForm},
		{[]int{1, 0}, api.ErrForm},
		{[]int{0, 1, 0}, api.ErrForm},
		// A form that is wrong goes before what is too large for Is.
		{make([]int, l.terms+1), api.ErrForm},
		{make([]int, most), api.ErrForm},
		{append(slices.Repeat([]int{1}, most-1), 0), api.ErrForm},
		{slices.Repeat([]int{1}, l.terms+1), api.ErrLarge},
		{slices.Repeat([]int{p - 1}, l.terms+1), api.ErrLarge},
		{append(make([]int, l.terms), 1), api.ErrLarge},
	}
	for count := l.terms + 1; count <= most; count++ {
		all = append(all, wrong{append(make([]int, count-1), p-1), api.ErrLarge})
	}
	for _, count := range []int{most + 1, most + 2, 1000} {
		for _, c := range []int{math.MinInt, -1, 0, 1, p, math.MaxInt} {
			all = append(all, wrong{slices.Repeat([]int{c}, count), api.ErrLarge})
		}
	}
	for _, bad := range []int{math.MinInt, math.MinInt + 1, -p, -1, p, p + 1, 2 * p, math.MaxInt} {
		all = append(all, wrong{[]int{bad}, api.ErrArg}, wrong{[]int{bad, 1}, api.ErrArg},
			wrong{[]int{1, bad}, api.ErrArg}, wrong{[]int{bad, 0}, api.ErrArg}, wrong{[]int{0, bad, 0}, api.ErrArg})
		for _, count := range []int{l.terms, l.terms + 1, most} {
			for _, place := range []int{0, count / 2, count - 1} {
				f := slices.Repeat([]int{1}, count)
				f[place] = bad
				all = append(all, wrong{f, api.ErrArg})
			}
		}
	}
	return all
}

// eachList visits all lists above, right and wrong, with a field and without.
func eachList(visit func(p int, f []int)) {
	visitAll := func(p int, l limit) {
		for _, f := range polynomials(l) {
			visit(p, f)
		}
		for _, w := range wrongs(l) {
			visit(p, w.f)
		}
	}
	for _, l := range limits {
		visitAll(l.p, l)
	}
	for _, p := range notFields {
		visitAll(p, limits[0])
		visitAll(p, limits[5])
	}
}

// wrongNumbers are some for n that are not allowed in any field.
var wrongNumbers = []int{
	math.MinInt, math.MinInt + 1, math.MinInt32, -40, -2, -1, 0, most, most + 1, 64, 1000, api.MaxInt, math.MaxInt,
}

// eachPair visits arguments of First and Count, right and wrong.
func eachPair(visit func(p, n int)) {
	for _, l := range limits {
		for n := 1; n < most; n++ {
			visit(l.p, n)
		}
		for _, n := range wrongNumbers {
			visit(l.p, n)
		}
	}
	for _, p := range notFields {
		for _, n := range append([]int{1, 2, 3, 19, 20, 39}, wrongNumbers...) {
			visit(p, n)
		}
	}
}

// isPrime asks math/big.
func isPrime(p int) bool {
	return big.NewInt(int64(max(p, 0))).ProbablyPrime(10)
}

// limitOf returns the limits of any field.
func limitOf(p int) limit {
	n := 0
	for all := p; all <= 1000000; all *= p {
		n++
	}
	// Half the coefficients, rounded down, may be n - 1.
	return limit{p, 2*n - 1, n}
}

func checkIs(t *testing.T, p int, f []int, want bool) {
	t.Helper()
	if is, err := irred.Is(p, f); err != api.OK || is != want {
		t.Errorf("Is(%d, %v) = %t, %d, want %t", p, f, is, err, want)
	}
}

func TestP1NoArgumentPanics(t *testing.T) {
	guard := func(call func(), arguments ...any) {
		defer func() {
			if r := recover(); r != nil {
				t.Errorf("%v panics: %v", arguments, r)
			}
		}()
		call()
	}
	eachList(func(p int, f []int) {
		guard(func() { irred.Is(p, f) }, p, f)
	})
	eachPair(func(p, n int) {
		guard(func() { irred.First(p, n) }, p, n)
		guard(func() { irred.Count(p, n) }, p, n)
	})
}

// results of calls.
type results struct {
	lists [][]int
	nums  []int
	is    []bool
	errs  []api.Errno
}

// callAll calls all functions with all arguments above.
func callAll() results {
	var r results
	add := func(l []int, num int, is bool, err api.Errno) {
		r.lists = append(r.lists, l)
		r.nums = append(r.nums, num)
		r.is = append(r.is, is)
		r.errs = append(r.errs, err)
	}
	eachList(func(p int, f []int) {
		is, err := irred.Is(p, f)
		add(nil, 0, is, err)
	})
	eachPair(func(p, n int) {
		f, err := irred.First(p, n)
		add(f, 0, false, err)
		count, err := irred.Count(p, n)
		add(nil, count, false, err)
	})
	return r
}

func TestP2ResultsDependOnlyOnArguments(t *testing.T) {
	first, again := callAll(), callAll()
	for i, err := range again.errs {
		if err != first.errs[i] || again.nums[i] != first.nums[i] || again.is[i] != first.is[i] ||
			!slices.Equal(again.lists[i], first.lists[i]) {
			t.Errorf("call %d: first %v, %d, %t, %d, then %v, %d, %t, %d", i, first.lists[i], first.nums[i],
				first.is[i], first.errs[i], again.lists[i], again.nums[i], again.is[i], err)
		}
	}
}

func TestP2OtherResultsAreZeroWithAnError(t *testing.T) {
	r := callAll()
	for i, err := range r.errs {
		if err != api.OK && (len(r.lists[i]) != 0 || r.nums[i] != 0 || r.is[i]) {
			t.Errorf("call %d: %v, %d, %t with error %d", i, r.lists[i], r.nums[i], r.is[i], err)
		}
	}
}

func TestP2ArgumentsStayAsTheyAre(t *testing.T) {
	// What lies behind the length stays, too.
	eachList(func(p int, f []int) {
		spare := append(slices.Clone(f), -5, -6, -7)
		want := slices.Clone(spare)
		irred.Is(p, spare[:len(f)])
		if !slices.Equal(spare, want) {
			t.Errorf("Is: %v became %v", want, spare)
		}
	})
}

func TestP2ResultsAreNewMemory(t *testing.T) {
	for _, l := range limits {
		for n := 1; n <= l.n; n++ {
			first, _ := irred.First(l.p, n)
			second, _ := irred.First(l.p, n)
			want := slices.Clone(second)
			// What lies behind the length is not shared either.
			first = first[:cap(first)]
			for i := range first {
				first[i] = -9
			}
			third, _ := irred.First(l.p, n)
			if !slices.Equal(second, want) || !slices.Equal(third, want) {
				t.Errorf("First(%d, %d) shares its result", l.p, n)
			}
		}
	}
}

func TestP43Is(t *testing.T) {
	for _, c := range []struct {
		p    int
		f    []int
		want bool
	}{
		{2, nil, false},
		{2, []int{}, false},
		{2, []int{1}, false},
		{7, []int{3}, false},
		{997, []int{996}, false},
		{2, []int{0, 1}, true},
		{2, []int{1, 1}, true},
		{7, []int{0, 3}, true},
		{997, []int{5, 996}, true},
		{2, []int{0, 0, 1}, false},
		{2, []int{1, 0, 1}, false},
		{2, []int{0, 1, 1}, false},
		{2, []int{1, 1, 1}, true},
		{3, []int{1, 0, 1}, true},
		{3, []int{2, 0, 2}, true},
		{3, []int{2, 0, 1}, false},
		{5, []int{1, 0, 1}, false},
		{5, []int{2, 0, 1}, true},
		{5, []int{4, 0, 2}, true},
		{5, []int{2, 0, 3}, false},
		{997, []int{1, 0, 1}, false},
		{991, []int{1, 0, 1}, true},
		{2, []int{1, 1, 0, 1}, true},
		{2, []int{1, 0, 1, 1}, true},
		{2, []int{1, 0, 0, 1}, false},
		// It has no root, but is the square of x^2 + x + 1.
		{2, []int{1, 0, 1, 0, 1}, false},
		{2, []int{1, 1, 1, 1, 1}, true},
		{2, []int{1, 1, 0, 1, 1, 0, 0, 0, 1}, true},
		{2, []int{1, 0, 1, 1, 1, 0, 0, 0, 1}, true},
		{2, []int{1, 0, 0, 1, 1, 0, 0, 0, 1}, false},
		{7, []int{5, 0, 0, 1}, true},
		{7, []int{6, 0, 0, 1}, false},
		// x^p - x + 1 and x^p - x, and a square of no square.
		{3, []int{1, 2, 0, 1}, true},
		{3, []int{0, 2, 0, 1}, false},
		{5, []int{1, 4, 0, 0, 0, 1}, true},
		{7, []int{1, 6, 0, 0, 0, 0, 0, 1}, true},
		{11, []int{1, 0, 2, 0, 1}, false},
	} {
		checkIs(t, c.p, c.f, c.want)
	}
}

func TestP43IsOfAllSmallPolynomials(t *testing.T) {
	for _, c := range []struct{ p, n int }{{2, 12}, {3, 7}, {5, 5}, {7, 4}, {11, 3}, {13, 3}, {31, 2}, {101, 2}} {
		reducible := products(c.p, c.n)
		for n := range c.n + 1 {
			eachMonic(c.p, n, func(f []int) bool {
				want := n > 0 && !reducible[key(f)]
				for _, by := range []int{1, c.p / 2, c.p - 1} {
					checkIs(t, c.p, scale(c.p, f, max(by, 1)), want)
				}
				return !t.Failed()
			})
		}
	}
}

func TestP43IsNotForProducts(t *testing.T) {
	next := numbers()
	for _, l := range limits {
		for count := 3; count <= l.terms; count++ {
			for a := 2; a <= count/2+1; a++ {
				f, g := someOf(l.p, a, next), someOf(l.p, count+1-a, next)
				checkIs(t, l.p, times(l.p, f, g), false)
				checkIs(t, l.p, times(l.p, g, f), false)
			}
			if count%2 == 1 {
				f := someOf(l.p, count/2+1, next)
				checkIs(t, l.p, times(l.p, f, f), false)
			}
		}
	}
}

// TestP43IsNotForProductsOfIrreducible leaves no small factor to be found.
func TestP43IsNotForProductsOfIrreducible(t *testing.T) {
	for _, l := range limits {
		factors := make([][][]int, l.terms/2+1)
		for n := 1; n < len(factors); n++ {
			eachMonic(l.p, n, func(f []int) bool {
				if search(l.p, f) {
					factors[n] = append(factors[n], slices.Clone(f))
				}
				return len(factors[n]) < 3
			})
		}
		for a := 1; a < len(factors); a++ {
			for b := a; b < len(factors) && a+b < l.terms; b++ {
				for _, f := range factors[a] {
					for _, g := range factors[b] {
						checkIs(t, l.p, times(l.p, f, g), false)
					}
				}
			}
		}
	}
}

func TestP43IsOfLargePolynomials(t *testing.T) {
	next := numbers()
	for _, l := range limits {
		for count := 2; count <= l.terms; count++ {
			for range 4 {
				f := someOf(l.p, count, next)
				checkIs(t, l.p, f, search(l.p, f))
			}
		}
	}
}

// TestP43IsOfSums has polynomials with few coefficients that are not 0, of which
// tables say that nothing divides them.
func TestP43IsOfSums(t *testing.T) {
	for _, exponents := range [][]int{
		{15, 1}, {17, 3}, {18, 7}, {20, 3}, {21, 2}, {22, 1}, {23, 5}, {25, 3}, {28, 3}, {29, 2}, {31, 3},
		{33, 13}, {35, 2}, {36, 11}, {16, 5, 3, 2}, {19, 6, 5, 1}, {24, 7, 2, 1}, {32, 7, 6, 2}, {34, 8, 4, 3},
	} {
		f := make([]int, exponents[0]+1)
		f[0] = 1
		for _, e := range exponents {
			f[e] = 1
		}
		checkIs(t, 2, f, true)
		slices.Reverse(f)
		checkIs(t, 2, f, true)
		f[0] = 0
		checkIs(t, 2, f, false)
	}
}

func TestP43Limits(t *testing.T) {
	for p := -1100; p <= 2000; p++ {
		if !isPrime(p) || p > api.MaxField {
			if is, err := irred.Is(p, []int{0, 1}); is || err != api.ErrArg {
				t.Errorf("Is(%d, [0 1]) = %t, %d, want an error", p, is, err)
			}
			continue
		}
		l := limitOf(p)
		for count := range most + 2 {
			want := api.OK
			if count > l.terms {
				want = api.ErrLarge
			}
			if _, err := irred.Is(p, slices.Repeat([]int{1}, count)); err != want {
				t.Errorf("Is(%d, %d coefficients) has error %d, want %d", p, count, err, want)
			}
		}
	}
}

func TestP43Errors(t *testing.T) {
	check := func(p int, f []int, want api.Errno) {
		if is, err := irred.Is(p, f); is || err != want {
			t.Errorf("Is(%d, %v) = %t, %d, want error %d", p, f, is, err, want)
		}
	}
	for _, l := range limits {
		for _, w := range wrongs(l) {
			check(l.p, w.f, w.err)
		}
	}
	for _, p := range notFields {
		for _, l := range []limit{limits[0], limits[5]} {
			for _, f := range polynomials(l) {
				check(p, f, api.ErrArg)
			}
			for _, w := range wrongs(l) {
				check(p, w.f, api.ErrArg)
			}
		}
	}
}

func TestP44First(t *testing.T) {
	for _, c := range []struct {
		p, n int
		want []int
	}{
		{2, 1, []int{0, 1}},
		{2, 2, []int{1, 1, 1}},
		{2, 3, []int{1, 1, 0, 1}},
		{2, 4, []int{1, 1, 0, 0, 1}},
		{2, 5, []int{1, 0, 1, 0, 0, 1}},
		{2, 6, []int{1, 1, 0, 0, 0, 0, 1}},
		{2, 8, []int{1, 1, 0, 1, 1, 0, 0, 0, 1}},
		{3, 1, []int{0, 1}},
		{3, 2, []int{1, 0, 1}},
		{3, 3, []int{1, 2, 0, 1}},
		{5, 2, []int{2, 0, 1}},
		{5, 3, []int{1, 1, 0, 1}},
		{7, 2, []int{1, 0, 1}},
		{7, 3, []int{2, 0, 0, 1}},
		{997, 1, []int{0, 1}},
		{997, 2, []int{2, 0, 1}},
		{991, 2, []int{1, 0, 1}},
	} {
		if f, err := irred.First(c.p, c.n); err != api.OK || !slices.Equal(f, c.want) {
			t.Errorf("First(%d, %d) = %v, %d, want %v", c.p, c.n, f, err, c.want)
		}
	}
}

func TestP44FirstOfAllFields(t *testing.T) {
	for p := range api.MaxField + 1 {
		if !isPrime(p) {
			continue
		}
		for n := 1; n <= limitOf(p).n; n++ {
			var want []int
			eachMonic(p, n, func(f []int) bool {
				want = f
				return !search(p, f)
			})
			if f, err := irred.First(p, n); err != api.OK || !slices.Equal(f, want) {
				t.Errorf("First(%d, %d) = %v, %d, want %v", p, n, f, err, want)
			}
		}
	}
}

func TestP45Count(t *testing.T) {
	for _, c := range []struct {
		p    int
		want []int
	}{
		{2, []int{2, 1, 2, 3, 6, 9, 18, 30, 56, 99, 186, 335, 630, 1161, 2182, 4080, 7710, 14532, 27594}},
		{3, []int{3, 3, 8, 18, 48, 116, 312, 810, 2184, 5880, 16104, 44220}},
		{5, []int{5, 10, 40, 150, 624, 2580, 11160, 48750}},
		{7, []int{7, 21, 112, 588, 3360, 19544, 117648}},
		{31, []int{31, 465, 9920, 230640}},
		{97, []int{97, 4656, 304192}},
		{101, []int{101, 5050}},
		{997, []int{997, 496506}},
	} {
		for i, want := range c.want {
			if count, err := irred.Count(c.p, i+1); err != api.OK || count != want {
				t.Errorf("Count(%d, %d) = %d, %d, want %d", c.p, i+1, count, err, want)
			}
		}
	}
}

// TestP45CountOfAllFields counts, with the result, in how many ways polynomials
// are products: there must be p^n with n + 1 coefficients.
func TestP45CountOfAllFields(t *testing.T) {
	for p := range api.MaxField + 1 {
		if !isPrime(p) {
			continue
		}
		top := limitOf(p).n
		// ways has, for each degree, the products of the factors so far.
		ways := make([]*big.Int, top+1)
		for i := range ways {
			ways[i] = new(big.Int)
		}
		ways[0].SetInt64(1)
		all := new(big.Int)
		for n := 1; n <= top; n++ {
			count, err := irred.Count(p, n)
			if err != api.OK || count < 1 {
				t.Fatalf("Count(%d, %d) = %d, %d", p, n, count, err)
			}
			ways = withFactors(ways, n, count)
			all.Exp(big.NewInt(int64(p)), big.NewInt(int64(n)), nil)
			if ways[n].Cmp(all) != 0 {
				t.Fatalf("Count(%d, %d) = %d makes %v polynomials, not %v", p, n, count, ways[n], all)
			}
		}
	}
}

// withFactors returns the ways with further factors: count of them, of degree n.
func withFactors(ways []*big.Int, n, count int) []*big.Int {
	result := make([]*big.Int, len(ways))
	for degree := range ways {
		sum := new(big.Int)
		for times := 0; times*n <= degree; times++ {
			// So many of count factors, each any number of times.
			choices := new(big.Int).Binomial(int64(count+times-1), int64(times))
			sum.Add(sum, choices.Mul(choices, ways[degree-times*n]))
		}
		result[degree] = sum
	}
	return result
}

// TestP45CountIsHowManyAre counts the polynomials of which Is says that they are.
func TestP45CountIsHowManyAre(t *testing.T) {
	for _, c := range []struct{ p, n int }{{2, 13}, {3, 8}, {5, 5}, {7, 4}, {11, 3}, {13, 3}, {31, 2}, {101, 2}} {
		for n := 1; n <= c.n; n++ {
			want := 0
			eachMonic(c.p, n, func(f []int) bool {
				if is, _ := irred.Is(c.p, f); is {
					want++
				}
				return true
			})
			if count, err := irred.Count(c.p, n); err != api.OK || count != want {
				t.Errorf("Count(%d, %d) = %d, %d, want %d", c.p, n, count, err, want)
			}
		}
	}
}

// checkErrors checks the errors of First or Count.
func checkErrors(t *testing.T, name string, call func(p, n int) api.Errno) {
	t.Helper()
	check := func(p, n int, want api.Errno) {
		if err := call(p, n); err != want {
			t.Errorf("%s(%d, %d) has error %d, want %d", name, p, n, err, want)
		}
	}
	for _, l := range limits {
		check(l.p, l.n, api.OK)
		check(l.p, l.n+1, api.ErrLarge)
		check(l.p, most-1, api.ErrLarge)
		for _, n := range wrongNumbers {
			check(l.p, n, api.ErrArg)
		}
	}
	for p := -1100; p <= 2000; p++ {
		if !isPrime(p) || p > api.MaxField {
			check(p, 1, api.ErrArg)
			check(p, 20, api.ErrArg)
			continue
		}
		for n := -2; n <= most+2; n++ {
			switch {
			case n < 1 || n >= most:
				check(p, n, api.ErrArg)
			case n > limitOf(p).n:
				check(p, n, api.ErrLarge)
			default:
				check(p, n, api.OK)
			}
		}
	}
	for _, p := range notFields {
		for _, n := range append([]int{1, 2, 3, 19, 20, 39}, wrongNumbers...) {
			check(p, n, api.ErrArg)
		}
	}
}

func TestP44Errors(t *testing.T) {
	checkErrors(t, "First", func(p, n int) api.Errno {
		_, err := irred.First(p, n)
		return err
	})
}

func TestP45Errors(t *testing.T) {
	checkErrors(t, "Count", func(p, n int) api.Errno {
		_, err := irred.Count(p, n)
		return err
	})
}
