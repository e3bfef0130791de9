package poly_test

import (
	"math"
	"math/big"
	"slices"
	"testing"

	"wholemend/api"
	"wholemend/poly"
)

const most = api.MaxTerms

// fields are some that are allowed.
var fields = []int{2, 3, 5, 7, 11, 13, 101, 251, 499, 991, api.MaxField}

// notFields are some that are not.
var notFields = []int{
	math.MinInt, math.MinInt + 1, math.MinInt32, -997, -7, -5, -2, -1, 0, 1, 4, 6, 9, 15, 25, 256,
	961, 995, 996, 998, 999, 1000, 1001, 1009, 1013, 65537, 999983, api.MaxPrime, 1000003, api.MaxInt,
	1000000007, math.MaxInt32, 1 << 40, math.MaxInt - 1, math.MaxInt,
}

// arguments are some for x.
var arguments = []int{
	math.MinInt, math.MinInt + 1, math.MinInt32, -api.MaxInt, -998, -997, -996, -8, -7, -2, -1, 0, 1, 2, 3,
	4, 5, 6, 7, 8, 100, 996, 997, 998, 65536, api.MaxInt, math.MaxInt32, 1 << 40, math.MaxInt - 1, math.MaxInt,
}

// numbers returns a function for numbers from 0 to below - 1, always the same.
func numbers() func(below int) int {
	seed := uint32(1)
	return func(below int) int {
		seed = seed*1664525 + 1013904223
		return int(seed>>8) % below
	}
}

// someOf returns a polynomial with so many coefficients.
func someOf(p, count int, next func(below int) int) []int {
	f := make([]int, count)
	for i := range f {
		f[i] = next(p)
	}
	if count > 0 {
		f[count-1] = 1 + next(p-1)
	}
	return f
}

// eachSmall visits all polynomials with up to count coefficients.
func eachSmall(p, count int, visit func(f []int)) {
	visit(nil)
	for n := 1; n <= count; n++ {
		f := make([]int, n)
		f[n-1] = 1
		for {
			visit(slices.Clone(f))
			i := 0
			for i < n && f[i] == p-1 {
				f[i] = 0
				i++
			}
			if i == n {
				break
			}
			f[i]++
		}
	}
}

// polynomials are some that are allowed.
func polynomials(p int) [][]int {
	next := numbers()
	l := [][]int{
		nil, {}, {1}, {p - 1}, {0, 1}, {p - 1, p - 1}, {0, 0, 0, 1}, {0, p - 1}, {1, 0, 0, 1},
		slices.Repeat([]int{1}, most), slices.Repeat([]int{p - 1}, most), append(make([]int, most-1), 1),
	}
	for count := range most + 1 {
		l = append(l, someOf(p, count, next))
	}
	return l
}

// wrong is no polynomial.
type wrong struct {
	f   []int
	err api.Errno
}

// wrongs are lists that are no polynomials, with what is wrong first.
func wrongs(p int) []wrong {
	l := []wrong{
		{slices.Repeat([]int{1}, most+1), api.ErrLarge},
		{slices.Repeat([]int{0}, most+1), api.ErrLarge},
		{slices.Repeat([]int{p}, most+1), api.ErrLarge},
		{slices.Repeat([]int{-1}, most+1), api.ErrLarge},
		{slices.Repeat([]int{1}, 1000), api.ErrLarge},
		{append(slices.Repeat([]int{1}, most), 0), api.ErrLarge},
		{[]int{0}, api.ErrForm},
		{[]int{0, 0}, api.ErrForm},
		{[]int{1, 0}, api.ErrForm},
		{[]int{0, 1, 0}, api.ErrForm},
		{[]int{p - 1, 0, 0}, api.ErrForm},
		{slices.Repeat([]int{0}, most), api.ErrForm},
		{append(slices.Repeat([]int{1}, most-1), 0), api.ErrForm},
	}
	for _, bad := range []int{math.MinInt, math.MinInt + 1, -p, -1, p, p + 1, 2 * p, api.MaxField, math.MaxInt} {
		l = append(l, wrong{[]int{bad}, api.ErrArg}, wrong{[]int{bad, 1}, api.ErrArg},
			wrong{[]int{1, bad}, api.ErrArg}, wrong{[]int{0, bad, 1}, api.ErrArg},
			wrong{[]int{bad, 0}, api.ErrArg}, wrong{[]int{0, bad, 0}, api.ErrArg})
		for _, place := range []int{0, 1, most / 2, most - 1} {
			full := slices.Repeat([]int{1}, most)
			full[place] = bad
			l = append(l, wrong{full, api.ErrArg})
		}
	}
	return l
}

// anything is all lists above, right and wrong.
func anything(p int) [][]int {
	l := polynomials(p)
	for _, w := range wrongs(p) {
		l = append(l, w.f)
	}
	return l
}

const digit = 64

// pack returns the value of f at 2^digit: its coefficients are the digits.
func pack(f []int) *big.Int {
	n := new(big.Int)
	for i, c := range f {
		n.Add(n, new(big.Int).Lsh(big.NewInt(int64(c)), uint(digit*i)))
	}
	return n
}

// unpack returns the polynomial with the digits of n as coefficients.
func unpack(p int, n *big.Int) []int {
	var f []int
	rest, digits := new(big.Int).Set(n), new(big.Int).Lsh(big.NewInt(1), digit)
	c := new(big.Int)
	for rest.Sign() > 0 {
		rest.DivMod(rest, digits, c)
		f = append(f, int(c.Mod(c, big.NewInt(int64(p))).Int64()))
	}
	for len(f) > 0 && f[len(f)-1] == 0 {
		f = f[:len(f)-1]
	}
	return f
}

// plus and times let large numbers do the work.
func plus(p int, f, g []int) []int {
	return unpack(p, new(big.Int).Add(pack(f), pack(g)))
}

func times(p int, f, g []int) []int {
	return unpack(p, new(big.Int).Mul(pack(f), pack(g)))
}

// value returns the value of f at x, which is as large as it is.
func value(p int, f []int, x int) int {
	sum, power := new(big.Int), big.NewInt(1)
	for _, c := range f {
		sum.Add(sum, new(big.Int).Mul(big.NewInt(int64(c)), power))
		power.Mul(power, big.NewInt(int64(x)))
	}
	return int(sum.Mod(sum, big.NewInt(int64(p))).Int64())
}

// binary is a function of two polynomials with one as its result.
type binary func(p int, f, g []int) ([]int, api.Errno)

func checkBinary(t *testing.T, name string, call binary, p int, f, g, want []int) {
	t.Helper()
	if got, err := call(p, f, g); err != api.OK || !slices.Equal(got, want) {
		t.Errorf("%s(%d, %v, %v) = %v, %d, want %v", name, p, f, g, got, err, want)
	}
}

func quotient(p int, f, g []int) ([]int, api.Errno) {
	q, _, err := poly.Div(p, f, g)
	return q, err
}

func remainder(p int, f, g []int) ([]int, api.Errno) {
	_, r, err := poly.Div(p, f, g)
	return r, err
}

// checkDiv checks the properties that together leave one right result.
func checkDiv(t *testing.T, p int, f, g []int) {
	t.Helper()
	q, r, err := poly.Div(p, f, g)
	if err != api.OK || poly.Check(p, q) != api.OK || poly.Check(p, r) != api.OK ||
		len(r) >= len(g) || !slices.Equal(plus(p, times(p, q, g), r), f) {
		t.Errorf("Div(%d, %v, %v) = %v, %v, %d", p, f, g, q, r, err)
	}
}

// checkErrors checks the errors that all functions of two polynomials have.
func checkErrors(t *testing.T, name string, call binary) {
	t.Helper()
	check := func(p int, f, g []int, want api.Errno) {
		if got, err := call(p, f, g); err != want || len(got) != 0 {
			t.Errorf("%s(%d, %v, %v) = %v, %d, want error %d", name, p, f, g, got, err, want)
		}
	}
	for _, p := range fields {
		for _, w := range wrongs(p) {
			for _, f := range polynomials(p) {
				check(p, w.f, f, w.err)
				check(p, f, w.f, w.err)
			}
			for _, other := range wrongs(p) {
				check(p, w.f, other.f, w.err)
			}
		}
	}
	for _, p := range notFields {
		for _, f := range anything(5) {
			check(p, f, []int{1}, api.ErrArg)
			check(p, []int{1}, f, api.ErrArg)
			check(p, f, f, api.ErrArg)
			check(p, f, nil, api.ErrArg)
		}
	}
}

// results of all functions.
type results struct {
	lists [][]int
	nums  []int
	errs  []api.Errno
}

func (r *results) add(err api.Errno, num int, lists ...[]int) {
	r.lists = append(r.lists, slices.Concat(lists...))
	r.nums = append(r.nums, num)
	r.errs = append(r.errs, err)
}

// call calls every function.
func (r *results) call(p int, f, g []int, x int) {
	sum, err := poly.Add(p, f, g)
	r.add(err, 0, sum)
	product, err := poly.Mul(p, f, g)
	r.add(err, 0, product)
	q, rest, err := poly.Div(p, f, g)
	r.add(err, len(q), q, rest)
	divisor, err := poly.Gcd(p, f, g)
	r.add(err, 0, divisor)
	y, err := poly.At(p, f, x)
	r.add(err, y)
	r.add(poly.Check(p, g), 0)
	r.add(poly.Field(p), 0)
}

// eachCall visits arguments that are allowed, and others.
func eachCall(visit func(p int, f, g []int, x int)) {
	for _, p := range []int{2, 7, api.MaxField} {
		l := anything(p)
		for i, f := range l {
			for j, g := range l {
				visit(p, f, g, arguments[(i+j)%len(arguments)])
			}
		}
	}
	for i, p := range notFields {
		for j, f := range anything(2) {
			visit(p, f, f, arguments[(i+j)%len(arguments)])
			visit(p, f, nil, arguments[(i+j)%len(arguments)])
		}
	}
}

func TestP1NoArgumentPanics(t *testing.T) {
	eachCall(func(p int, f, g []int, x int) {
		defer func() {
			if r := recover(); r != nil {
				t.Errorf("%d, %v, %v, %d panics: %v", p, f, g, x, r)
			}
		}()
		new(results).call(p, f, g, x)
	})
}

func TestP2ResultsDependOnlyOnArguments(t *testing.T) {
	var first, again results
	eachCall(first.call)
	eachCall(again.call)
	for i, err := range again.errs {
		if err != first.errs[i] || again.nums[i] != first.nums[i] || !slices.Equal(again.lists[i], first.lists[i]) {
			t.Errorf("call %d: first %v, %d, %d, then %v, %d, %d", i, first.lists[i],
				first.nums[i], first.errs[i], again.lists[i], again.nums[i], err)
		}
	}
}

func TestP2OtherResultsAreZeroWithAnError(t *testing.T) {
	var r results
	eachCall(r.call)
	for i, err := range r.errs {
		if err != api.OK && (len(r.lists[i]) != 0 || r.nums[i] != 0) {
			t.Errorf("call %d: %v, %d with error %d", i, r.lists[i], r.nums[i], err)
		}
	}
}

func TestP2ArgumentsStayAsTheyAre(t *testing.T) {
	eachCall(func(p int, f, g []int, x int) {
		// What lies behind the length stays, too.
		spareF, spareG := append(slices.Clone(f), -5, -6), append(slices.Clone(g), -7, -8)
		wantF, wantG := slices.Clone(spareF), slices.Clone(spareG)
		new(results).call(p, spareF[:len(f)], spareG[:len(g)], x)
		if !slices.Equal(spareF, wantF) || !slices.Equal(spareG, wantG) {
			t.Errorf("%v, %v became %v, %v", wantF, wantG, spareF, spareG)
		}
	})
}

// spoil changes all of f, with what lies behind its length.
func spoil(f []int) {
	f = f[:cap(f)]
	for i := range f {
		f[i] = -9
	}
}

func TestP2ResultsAreNewMemory(t *testing.T) {
	for _, p := range []int{2, 7, api.MaxField} {
		for _, f := range polynomials(p) {
			for _, g := range polynomials(p) {
				for i, call := range []binary{poly.Add, poly.Mul, poly.Gcd, quotient, remainder} {
					// Behind the lengths there is room that no result may take.
					roomF, roomG := slices.Grow(slices.Clone(f), 50), slices.Grow(slices.Clone(g), 50)
					first, _ := call(p, roomF, roomG)
					second, _ := call(p, roomF, roomG)
					want := slices.Clone(second)
					spoil(first)
					if !slices.Equal(roomF, f) || !slices.Equal(roomG, g) || !slices.Equal(second, want) {
						t.Fatalf("function %d of %d, %v, %v shares its result", i, p, f, g)
					}
					spoil(roomF)
					spoil(roomG)
					third, _ := call(p, f, g)
					if !slices.Equal(second, want) || !slices.Equal(third, want) {
						t.Fatalf("function %d of %d, %v, %v keeps memory", i, p, f, g)
					}
				}
			}
		}
	}
}

func TestP2QuotientAndRemainderAreApart(t *testing.T) {
	for _, p := range []int{2, 7, api.MaxField} {
		for _, f := range polynomials(p) {
			for _, g := range polynomials(p) {
				q, r, _ := poly.Div(p, f, g)
				want := slices.Clone(r)
				spoil(q)
				if !slices.Equal(r, want) {
					t.Fatalf("Div(%d, %v, %v) shares memory", p, f, g)
				}
				q, r, _ = poly.Div(p, f, g)
				want = slices.Clone(q)
				spoil(r)
				if !slices.Equal(q, want) {
					t.Fatalf("Div(%d, %v, %v) shares memory", p, f, g)
				}
			}
		}
	}
}

func TestP31Field(t *testing.T) {
	for p := -1100; p <= 3000; p++ {
		want := api.OK
		if p > api.MaxField || !big.NewInt(int64(max(p, 0))).ProbablyPrime(10) {
			want = api.ErrArg
		}
		if err := poly.Field(p); err != want {
			t.Errorf("Field(%d) = %d, want %d", p, err, want)
		}
	}
	for _, p := range fields {
		if err := poly.Field(p); err != api.OK {
			t.Errorf("Field(%d) = %d", p, err)
		}
	}
	for _, p := range notFields {
		if err := poly.Field(p); err != api.ErrArg {
			t.Errorf("Field(%d) = %d, want %d", p, err, api.ErrArg)
		}
	}
}

func TestP32Check(t *testing.T) {
	for _, p := range fields {
		for _, f := range polynomials(p) {
			if err := poly.Check(p, f); err != api.OK {
				t.Errorf("Check(%d, %v) = %d", p, f, err)
			}
		}
		for _, w := range wrongs(p) {
			if err := poly.Check(p, w.f); err != w.err {
				t.Errorf("Check(%d, %v) = %d, want %d", p, w.f, err, w.err)
			}
		}
	}
	eachSmall(5, 4, func(f []int) {
		if err := poly.Check(5, f); err != api.OK {
			t.Errorf("Check(5, %v) = %d", f, err)
		}
	})
}

func TestP32CheckBeginsWithTheField(t *testing.T) {
	for _, p := range notFields {
		for _, f := range anything(3) {
			if err := poly.Check(p, f); err != api.ErrArg {
				t.Errorf("Check(%d, %v) = %d, want %d", p, f, err, api.ErrArg)
			}
		}
	}
}

func TestP33Add(t *testing.T) {
	for _, c := range []struct {
		p          int
		f, g, want []int
	}{
		{5, []int{1, 2}, []int{3, 3}, []int{4}},
		{5, []int{1, 2}, []int{4, 3}, nil},
		{5, nil, nil, nil},
		{5, []int{1, 2}, nil, []int{1, 2}},
		{5, nil, []int{1, 2}, []int{1, 2}},
		{5, []int{1}, []int{1, 2, 3}, []int{2, 2, 3}},
		{5, []int{1, 2, 3}, []int{4}, []int{0, 2, 3}},
		{7, []int{0, 1, 2, 3}, []int{0, 0, 5, 4}, []int{0, 1}},
		{2, []int{1, 1, 1}, []int{1, 0, 1}, []int{0, 1}},
		{997, []int{996, 996}, []int{996, 996}, []int{995, 995}},
	} {
		checkBinary(t, "Add", poly.Add, c.p, c.f, c.g, c.want)
	}
}

func TestP33AddOfManyPolynomials(t *testing.T) {
	for _, p := range fields {
		for _, f := range polynomials(p) {
			for _, g := range polynomials(p) {
				checkBinary(t, "Add", poly.Add, p, f, g, plus(p, f, g))
			}
			negative := times(p, []int{p - 1}, f)
			checkBinary(t, "Add", poly.Add, p, f, negative, nil)
		}
	}
	eachSmall(3, 4, func(f []int) {
		eachSmall(3, 4, func(g []int) { checkBinary(t, "Add", poly.Add, 3, f, g, plus(3, f, g)) })
	})
}

func TestP33Errors(t *testing.T) { checkErrors(t, "Add", poly.Add) }

func TestP34Mul(t *testing.T) {
	for _, c := range []struct {
		p          int
		f, g, want []int
	}{
		{5, []int{1, 2}, []int{3, 1}, []int{3, 2, 2}},
		{5, nil, nil, nil},
		{5, nil, []int{1, 2}, nil},
		{5, []int{1, 2}, nil, nil},
		{5, nil, slices.Repeat([]int{1}, most), nil},
		{5, slices.Repeat([]int{1}, most), nil, nil},
		{5, []int{1}, []int{1, 2}, []int{1, 2}},
		{5, []int{4}, []int{4}, []int{1}},
		{2, []int{1, 1}, []int{1, 1}, []int{1, 0, 1}},
		{3, []int{1, 1}, []int{2, 1}, []int{2, 0, 1}},
		{997, []int{996, 996}, []int{996, 996}, []int{1, 2, 1}},
		{7, []int{0, 0, 3}, []int{0, 5}, []int{0, 0, 0, 1}},
	} {
		checkBinary(t, "Mul", poly.Mul, c.p, c.f, c.g, c.want)
	}
}

func TestP34MulOfManyPolynomials(t *testing.T) {
	for _, p := range fields {
		for _, f := range polynomials(p) {
			for _, g := range polynomials(p) {
				want := times(p, f, g)
				if len(want) <= most {
					checkBinary(t, "Mul", poly.Mul, p, f, g, want)
				} else if got, err := poly.Mul(p, f, g); err != api.ErrLarge || len(got) != 0 {
					t.Errorf("Mul(%d, %v, %v) = %v, %d, want error %d", p, f, g, got, err, api.ErrLarge)
				}
			}
		}
	}
	eachSmall(3, 4, func(f []int) {
		eachSmall(3, 4, func(g []int) { checkBinary(t, "Mul", poly.Mul, 3, f, g, times(3, f, g)) })
	})
}

func TestP34MulUpToTheBound(t *testing.T) {
	next := numbers()
	for _, p := range fields {
		for count := 1; count <= most; count++ {
			f, g := someOf(p, count, next), someOf(p, most+1-count, next)
			checkBinary(t, "Mul", poly.Mul, p, f, g, times(p, f, g))
			g = someOf(p, min(most+2-count, most), next)
			if got, err := poly.Mul(p, f, g); count > 1 && (err != api.ErrLarge || len(got) != 0) {
				t.Errorf("Mul(%d, %v, %v) = %v, %d, want error %d", p, f, g, got, err, api.ErrLarge)
			}
		}
	}
}

func TestP34Errors(t *testing.T) { checkErrors(t, "Mul", poly.Mul) }

func TestP35Div(t *testing.T) {
	for _, c := range []struct {
		p          int
		f, g, q, r []int
	}{
		{5, []int{1, 0, 1}, []int{2, 1}, []int{3, 1}, nil},
		{5, []int{1, 0, 1}, []int{1, 2}, []int{1, 3}, nil},
		{5, nil, []int{3}, nil, nil},
		{5, nil, []int{3, 4}, nil, nil},
		{5, []int{1, 2}, []int{1, 2, 3}, nil, []int{1, 2}},
		{5, []int{1, 2}, []int{2}, []int{3, 1}, nil},
		{5, []int{3}, []int{4}, []int{2}, nil},
		{5, []int{1, 2}, []int{1, 2}, []int{1}, nil},
		{2, []int{1, 0, 0, 1}, []int{1, 1}, []int{1, 1, 1}, nil},
		{2, []int{1, 1, 0, 1}, []int{1, 1}, []int{0, 1, 1}, []int{1}},
		{7, []int{1, 2, 3, 0, 1}, []int{0, 0, 1}, []int{3, 0, 1}, []int{1, 2}},
		{7, []int{1, 0, 0, 1}, []int{0, 0, 1}, []int{0, 1}, []int{1}},
	} {
		q, r, err := poly.Div(c.p, c.f, c.g)
		if err != api.OK || !slices.Equal(q, c.q) || !slices.Equal(r, c.r) {
			t.Errorf("Div(%d, %v, %v) = %v, %v, %d, want %v, %v", c.p, c.f, c.g, q, r, err, c.q, c.r)
		}
	}
}

func TestP35DivOfManyPolynomials(t *testing.T) {
	for _, p := range fields {
		for _, f := range polynomials(p) {
			for _, g := range polynomials(p) {
				if len(g) > 0 {
					checkDiv(t, p, f, g)
				}
			}
		}
	}
	eachSmall(3, 4, func(f []int) {
		eachSmall(3, 4, func(g []int) {
			if len(g) > 0 {
				checkDiv(t, 3, f, g)
			}
		})
	})
}

func TestP35DivOfProducts(t *testing.T) {
	next := numbers()
	for _, p := range fields {
		for range 200 {
			count := 1 + next(most)
			q, g := someOf(p, 1+next(most+1-count), next), someOf(p, count, next)
			f := times(p, q, g)
			checkBinary(t, "quotient", quotient, p, f, g, q)
			checkBinary(t, "remainder", remainder, p, f, g, nil)
		}
	}
}

func TestP35Errors(t *testing.T) {
	checkErrors(t, "quotient", quotient)
	checkErrors(t, "remainder", remainder)
	for _, p := range fields {
		for _, f := range polynomials(p) {
			for _, zero := range [][]int{nil, {}} {
				if q, r, err := poly.Div(p, f, zero); err != api.ErrZero || len(q)+len(r) != 0 {
					t.Errorf("Div(%d, %v, 0) = %v, %v, %d, want error %d", p, f, q, r, err, api.ErrZero)
				}
			}
		}
	}
}

func TestP36Gcd(t *testing.T) {
	full := slices.Repeat([]int{1}, most)
	for _, c := range []struct {
		p          int
		f, g, want []int
	}{
		{5, []int{4, 0, 1}, []int{2, 2}, []int{1, 1}},
		{5, nil, nil, nil},
		{5, nil, []int{2, 4}, []int{3, 1}},
		{5, []int{2, 4}, nil, []int{3, 1}},
		{5, []int{3}, nil, []int{1}},
		{5, nil, []int{3}, []int{1}},
		{5, []int{3}, []int{1, 2, 3}, []int{1}},
		{5, []int{1, 2, 3}, []int{4}, []int{1}},
		{5, []int{1, 1}, []int{2, 1}, []int{1}},
		{5, []int{0, 0, 3}, []int{0, 4}, []int{0, 1}},
		{2, []int{1, 0, 1}, []int{1, 1}, []int{1, 1}},
		{7, full, full, full},
		{7, full, nil, full},
	} {
		checkBinary(t, "Gcd", poly.Gcd, c.p, c.f, c.g, c.want)
	}
}

// searchGcd takes the longest monic polynomial that divides f and g, which are
// not both 0.
func searchGcd(p, count int, f, g []int) []int {
	var longest []int
	eachSmall(p, count, func(d []int) {
		if len(d) > len(longest) && d[len(d)-1] == 1 && divides(p, count, d, f) && divides(p, count, d, g) {
			longest = d
		}
	})
	return longest
}

// divides tells whether f is d times something.
func divides(p, count int, d, f []int) bool {
	found := false
	eachSmall(p, count, func(q []int) {
		if !found && slices.Equal(times(p, d, q), f) {
			found = true
		}
	})
	return found
}

func TestP36GcdOfSmallPolynomials(t *testing.T) {
	for _, c := range []struct{ p, count int }{{2, 4}, {3, 3}} {
		eachSmall(c.p, c.count, func(f []int) {
			eachSmall(c.p, c.count, func(g []int) {
				var want []int
				if len(f)+len(g) > 0 {
					want = searchGcd(c.p, c.count, f, g)
				}
				checkBinary(t, "Gcd", poly.Gcd, c.p, f, g, want)
			})
		})
	}
}

// fromRoots returns the product of x - r, as often as times says for r.
func fromRoots(p int, often []int) []int {
	f := []int{1}
	for r, count := range often {
		for range count {
			f = times(p, f, []int{(p - r) % p, 1})
		}
	}
	return f
}

func TestP36GcdOfProductsOfRoots(t *testing.T) {
	next := numbers()
	for _, p := range fields {
		for range 300 {
			roots := min(p, 13)
			in, inBoth, inOther := make([]int, roots), make([]int, roots), make([]int, roots)
			for r := range roots {
				in[r], inOther[r] = next(4), next(4)
				inBoth[r] = min(in[r], inOther[r])
			}
			f := times(p, []int{1 + next(p-1)}, fromRoots(p, in))
			g := times(p, []int{1 + next(p-1)}, fromRoots(p, inOther))
			checkBinary(t, "Gcd", poly.Gcd, p, f, g, fromRoots(p, inBoth))
		}
	}
}

func TestP36Errors(t *testing.T) { checkErrors(t, "Gcd", poly.Gcd) }

func TestP37At(t *testing.T) {
	for _, c := range []struct {
		p    int
		f    []int
		x    int
		want int
	}{
		{7, []int{1, 2, 3}, 2, 3},
		{7, []int{1, 2, 3}, 9, 3},
		{7, []int{1, 2, 3}, -5, 3},
		{7, []int{1, 2, 3}, 0, 1},
		{7, []int{1, 2, 3}, 7, 1},
		{7, nil, 3, 0},
		{7, nil, math.MinInt, 0},
		{7, []int{4}, 3, 4},
		{2, []int{1, 1}, 1, 0},
		{2, []int{1, 1}, -1, 0},
		{5, []int{0, 1}, -1, 4},
		{997, []int{0, 1}, -997, 0},
		{997, []int{0, 0, 1}, 996, 1},
	} {
		if y, err := poly.At(c.p, c.f, c.x); err != api.OK || y != c.want {
			t.Errorf("At(%d, %v, %d) = %d, %d, want %d", c.p, c.f, c.x, y, err, c.want)
		}
	}
}

func TestP37AtManyNumbers(t *testing.T) {
	check := func(p int, f []int, x int) {
		if y, err := poly.At(p, f, x); err != api.OK || y != value(p, f, x) {
			t.Errorf("At(%d, %v, %d) = %d, %d, want %d", p, f, x, y, err, value(p, f, x))
		}
	}
	for _, p := range fields {
		for _, f := range polynomials(p) {
			for _, x := range arguments {
				check(p, f, x)
			}
		}
	}
	eachSmall(3, 4, func(f []int) {
		for x := -7; x <= 7; x++ {
			check(3, f, x)
		}
	})
}

func TestP37Errors(t *testing.T) {
	check := func(p int, f []int, x int, want api.Errno) {
		if y, err := poly.At(p, f, x); err != want || y != 0 {
			t.Errorf("At(%d, %v, %d) = %d, %d, want error %d", p, f, x, y, err, want)
		}
	}
	for _, x := range arguments {
		for _, p := range fields {
			for _, w := range wrongs(p) {
				check(p, w.f, x, w.err)
			}
		}
		for _, p := range notFields {
			for _, f := range anything(3) {
				check(p, f, x, api.ErrArg)
			}
		}
	}
}
