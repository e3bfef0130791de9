package field_test

import (
	"math"
	"math/big"
	"slices"
	"testing"

	"wholemend/api"
	"wholemend/field"
	"wholemend/irred"
	"wholemend/poly"
)

// divisor is the polynomial by which products are divided.
const divisor = 0x11d

// exponents are some that Pow allows, at the bounds and between them.
var exponents = []int{
	0, 1, 2, 3, 4, 5, 7, 8, 15, 16, 17, 51, 85, 127, 128, 170, 253, 254, 255, 256, 257, 509, 510, 511, 765,
	1000, 65535, 65536, api.MaxInt, math.MaxInt32 - 1, math.MaxInt32, math.MaxInt32 + 1, math.MaxUint32,
	1 << 40, 1<<53 + 1, 1 << 62, math.MaxInt - 254, math.MaxInt - 1, math.MaxInt,
}

// negatives are exponents that Pow does not allow.
var negatives = []int{
	math.MinInt, math.MinInt + 1, math.MinInt32 - 1, math.MinInt32, -api.MaxInt, -65536,
	-512, -511, -510, -257, -256, -255, -254, -128, -3, -2, -1,
}

// polynomial returns the one that the bits of a represent.
func polynomial(a int) []int {
	var f []int
	for ; a != 0; a /= 2 {
		f = append(f, a%2)
	}
	return f
}

// number returns the one that represents a polynomial.
func number(f []int) int {
	n := 0
	for k, c := range f {
		n += c << k
	}
	return n
}

// product works out the product of two bytes in whole numbers: first that of
// the polynomials, then its remainder.
func product(a, b byte) byte {
	all := 0
	for k := range 8 {
		if b>>k&1 == 1 {
			all ^= int(a) << k
		}
	}
	for k := 7; k >= 0; k-- {
		if all>>(8+k)&1 == 1 {
			all ^= divisor << k
		}
	}
	return byte(all)
}

// table returns the products of all pairs of bytes.
func table() *[256][256]byte {
	var all [256][256]byte
	for a := range all {
		for b := range all {
			all[a][b] = product(byte(a), byte(b))
		}
	}
	return &all
}

// folds returns the n-fold products of a for all n below count.
func folds(a byte, count int) []byte {
	all := make([]byte, count)
	power := byte(1)
	for n := range all {
		all[n] = power
		power = product(power, a)
	}
	return all
}

// result of a call.
type result struct {
	value int
	err   api.Errno
}

// eachCall visits the calls of all functions with the arguments above.
func eachCall(visit func(name string, a, b int, call func() result)) {
	for a := range 256 {
		for b := range 256 {
			visit("Mul", a, b, func() result {
				return result{int(field.Mul(byte(a), byte(b))), api.OK}
			})
		}
		for _, list := range [][]int{exponents, negatives} {
			for _, n := range list {
				visit("Pow", a, n, func() result {
					power, err := field.Pow(byte(a), n)
					return result{int(power), err}
				})
			}
		}
		visit("Inv", a, 0, func() result {
			inverse, err := field.Inv(byte(a))
			return result{int(inverse), err}
		})
		visit("Log", a, 0, func() result {
			n, err := field.Log(byte(a))
			return result{n, err}
		})
	}
}

func TestP1NoArgumentPanics(t *testing.T) {
	eachCall(func(name string, a, b int, call func() result) {
		defer func() {
			if r := recover(); r != nil {
				t.Errorf("%s of %d, %d panics: %v", name, a, b, r)
			}
		}()
		call()
	})
}

func TestP2ResultsDependOnlyOnArguments(t *testing.T) {
	type visited struct {
		name  string
		a, b  int
		call  func() result
		first result
	}
	var calls []visited
	eachCall(func(name string, a, b int, call func() result) {
		calls = append(calls, visited{name, a, b, call, call()})
	})
	check := func(c visited) {
		if again := c.call(); again != c.first {
			t.Errorf("%s of %d, %d: first %v, then %v", c.name, c.a, c.b, c.first, again)
		}
	}
	for _, c := range calls {
		check(c)
	}
	// Nor does it count which calls come before.
	for _, c := range slices.Backward(calls) {
		check(c)
	}
}

func TestP2OtherResultsAreZeroWithAnError(t *testing.T) {
	eachCall(func(name string, a, b int, call func() result) {
		if r := call(); r.err != api.OK && r.value != 0 {
			t.Errorf("%s of %d, %d = %d with error %d", name, a, b, r.value, r.err)
		}
	})
}

// TestP46BytesArePolynomials compares products with those of the polynomials
// that the bytes represent, in the terms of chapter 9.
func TestP46BytesArePolynomials(t *testing.T) {
	by := polynomial(divisor)
	if is, err := irred.Is(2, by); err != api.OK || !is {
		t.Fatalf("Is(2, %v) = %t, %d", by, is, err)
	}
	for a := range 256 {
		for b := range 256 {
			all, err := poly.Mul(2, polynomial(a), polynomial(b))
			if err != api.OK {
				t.Fatalf("poly.Mul of %d, %d has error %d", a, b, err)
			}
			_, rest, err := poly.Div(2, all, by)
			if err != api.OK {
				t.Fatalf("poly.Div of %v has error %d", all, err)
			}
			if got := field.Mul(byte(a), byte(b)); int(got) != number(rest) {
				t.Fatalf("Mul(%d, %d) = %d, want %d", a, b, got, number(rest))
			}
		}
	}
}

// TestP46SumIsExclusiveOr checks that bytes with this sum are a field.
func TestP46SumIsExclusiveOr(t *testing.T) {
	for a := range 256 {
		for b := range 256 {
			a, b := byte(a), byte(b)
			whole := field.Mul(a, b)
			if whole != field.Mul(b, a) {
				t.Fatalf("Mul(%d, %d) = %d, but %d the other way round", a, b, whole, field.Mul(b, a))
			}
			for c := range 256 {
				c := byte(c)
				if x, y := field.Mul(a, b^c), whole^field.Mul(a, c); x != y {
					t.Fatalf("%d times the sum of %d and %d is %d, the sum of the products is %d", a, b, c, x, y)
				}
			}
			// The distributive law leaves the bytes of one bit to be checked.
			for k := range 8 {
				c := byte(1) << k
				if x, y := field.Mul(whole, c), field.Mul(a, field.Mul(b, c)); x != y {
					t.Fatalf("%d times %d times %d is %d or %d", a, b, c, x, y)
				}
			}
		}
	}
}

func TestP47Mul(t *testing.T) {
	for _, c := range []struct{ a, b, want byte }{
		{2, 128, 29},
		{128, 2, 29},
		{0, 0, 0},
		{0, 1, 0},
		{0, 255, 0},
		{1, 1, 1},
		{1, 255, 255},
		{2, 2, 4},
		{3, 3, 5},
		{3, 7, 9},
		{2, 64, 128},
		{16, 16, 29},
		{2, 142, 1},
		{128, 128, 19},
		{255, 255, 226},
	} {
		if got := field.Mul(c.a, c.b); got != c.want {
			t.Errorf("Mul(%d, %d) = %d, want %d", c.a, c.b, got, c.want)
		}
		if got := field.Mul(c.b, c.a); got != c.want {
			t.Errorf("Mul(%d, %d) = %d, want %d", c.b, c.a, got, c.want)
		}
	}
}

func TestP47MulOfAllBytes(t *testing.T) {
	for a, row := range table() {
		for b, want := range row {
			if got := field.Mul(byte(a), byte(b)); got != want {
				t.Errorf("Mul(%d, %d) = %d, want %d", a, b, got, want)
			}
		}
	}
}

func checkPow(t *testing.T, a byte, n int, want byte) {
	t.Helper()
	if got, err := field.Pow(a, n); err != api.OK || got != want {
		t.Errorf("Pow(%d, %d) = %d, %d, want %d", a, n, got, err, want)
	}
}

func TestP48Pow(t *testing.T) {
	for _, c := range []struct {
		a    byte
		n    int
		want byte
	}{
		{0, 0, 1},
		{0, 1, 0},
		{0, 2, 0},
		{0, 255, 0},
		{0, 256, 0},
		{0, 510, 0},
		{0, math.MaxInt, 0},
		{1, 0, 1},
		{1, 1, 1},
		{1, math.MaxInt, 1},
		{2, 0, 1},
		{2, 1, 2},
		{2, 7, 128},
		{2, 8, 29},
		{2, 254, 142},
		{2, 255, 1},
		{2, 256, 2},
		{3, 2, 5},
		{255, 0, 1},
		{255, 1, 255},
		{255, 2, 226},
		{255, 255, 1},
	} {
		checkPow(t, c.a, c.n, c.want)
	}
}

func TestP48PowOfAllBytes(t *testing.T) {
	for a := range 256 {
		for n, want := range folds(byte(a), 1100) {
			checkPow(t, byte(a), n, want)
		}
	}
}

// TestP48PowOfLargeExponents compares with products of squares of squares, one
// for each bit of the exponent.
func TestP48PowOfLargeExponents(t *testing.T) {
	for a := range 256 {
		for _, n := range exponents {
			want, square := byte(1), byte(a)
			bits := big.NewInt(int64(n))
			for k := range bits.BitLen() {
				if bits.Bit(k) == 1 {
					want = product(want, square)
				}
				square = product(square, square)
			}
			checkPow(t, byte(a), n, want)
		}
	}
}

func TestP48Errors(t *testing.T) {
	for a := range 256 {
		for _, n := range negatives {
			if got, err := field.Pow(byte(a), n); got != 0 || err != api.ErrArg {
				t.Errorf("Pow(%d, %d) = %d, %d, want error %d", a, n, got, err, api.ErrArg)
			}
		}
		for n := -600; n < 0; n++ {
			if got, err := field.Pow(byte(a), n); got != 0 || err != api.ErrArg {
				t.Errorf("Pow(%d, %d) = %d, %d, want error %d", a, n, got, err, api.ErrArg)
			}
		}
	}
}

func TestP49Inv(t *testing.T) {
	for _, c := range []struct{ a, want byte }{{1, 1}, {2, 142}, {142, 2}, {3, 244}, {4, 71}, {128, 27}, {255, 253}} {
		if got, err := field.Inv(c.a); err != api.OK || got != c.want {
			t.Errorf("Inv(%d) = %d, %d, want %d", c.a, got, err, c.want)
		}
	}
}

func TestP49InvOfAllBytes(t *testing.T) {
	for a, row := range table() {
		if a == 0 {
			continue
		}
		got, err := field.Inv(byte(a))
		if err != api.OK || row[got] != 1 {
			t.Errorf("Inv(%d) = %d, %d, but the product is %d", a, got, err, row[got])
		}
		if one := field.Mul(byte(a), got); one != 1 {
			t.Errorf("Mul(%d, Inv(%d)) = %d", a, a, one)
		}
		if again, err := field.Inv(got); err != api.OK || again != byte(a) {
			t.Errorf("Inv(Inv(%d)) = %d, %d", a, again, err)
		}
	}
}

func TestP49Errors(t *testing.T) {
	if got, err := field.Inv(0); got != 0 || err != api.ErrZero {
		t.Errorf("Inv(0) = %d, %d, want error %d", got, err, api.ErrZero)
	}
}

func TestP50Log(t *testing.T) {
	for _, c := range []struct {
		a    byte
		want int
	}{{1, 0}, {2, 1}, {4, 2}, {128, 7}, {29, 8}, {3, 25}, {255, 175}, {71, 253}, {142, 254}} {
		if n, err := field.Log(c.a); err != api.OK || n != c.want {
			t.Errorf("Log(%d) = %d, %d, want %d", c.a, n, err, c.want)
		}
	}
}

func TestP50LogOfAllBytes(t *testing.T) {
	powers := folds(2, 255)
	for a := 1; a < 256; a++ {
		want := 0
		for want < len(powers) && powers[want] != byte(a) {
			want++
		}
		if n, err := field.Log(byte(a)); err != api.OK || n != want {
			t.Errorf("Log(%d) = %d, %d, want %d", a, n, err, want)
			continue
		}
		if power, err := field.Pow(2, want); err != api.OK || power != byte(a) {
			t.Errorf("Pow(2, Log(%d)) = %d, %d", a, power, err)
		}
	}
}

func TestP50Errors(t *testing.T) {
	if n, err := field.Log(0); n != 0 || err != api.ErrZero {
		t.Errorf("Log(0) = %d, %d, want error %d", n, err, api.ErrZero)
	}
}
