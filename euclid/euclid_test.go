package euclid_test

import (
	"math"
	"testing"

	"wholemend/api"
	"wholemend/euclid"
)

const most = api.MaxInt

// extremes are numbers at the bounds of what is allowed, and beyond them.
var extremes = []int{
	math.MinInt, math.MinInt + 1, math.MinInt32, -most - 1, -most, -most + 1, -2, -1,
	0, 1, 2, most - 1, most, most + 1, math.MaxInt32, math.MaxInt - 1, math.MaxInt,
}

// small is the bound of the pairs that are all compared with a search.
const small = 40

func eachSmallPair(visit func(a, b int)) {
	for a := -small; a <= small; a++ {
		for b := -small; b <= small; b++ {
			visit(a, b)
		}
	}
}

func eachExtremePair(visit func(a, b int)) {
	for _, a := range extremes {
		for _, b := range extremes {
			visit(a, b)
		}
	}
}

func allowed(n int) bool { return n >= -most && n <= most }

func size(n int) int {
	if n < 0 {
		return -n
	}
	return n
}

func searchGcd(a, b int) int {
	for d := max(size(a), size(b)); d > 0; d-- {
		if a%d == 0 && b%d == 0 {
			return d
		}
	}
	return 0
}

func searchLcm(a, b int) int {
	if a == 0 || b == 0 {
		return 0
	}
	m := size(a)
	for m%size(b) != 0 {
		m += size(a)
	}
	return m
}

// searchBezout returns the x and y that P4 demands, found by trying every x.
func searchBezout(a, b int) (int, int) {
	if b == 0 {
		switch {
		case a > 0:
			return 1, 0
		case a < 0:
			return -1, 0
		}
		return 0, 0
	}
	g := searchGcd(a, b)
	x := 0
	for (g-x*a)%b != 0 {
		x++
	}
	return x, (g - x*a) / b
}

func TestP1NoArgumentPanics(t *testing.T) {
	eachExtremePair(func(a, b int) {
		defer func() {
			if r := recover(); r != nil {
				t.Errorf("(%d, %d) panics: %v", a, b, r)
			}
		}()
		euclid.Gcd(a, b)
		euclid.Lcm(a, b)
		euclid.Bezout(a, b)
		euclid.Steps(a, b)
	})
}

// results of all functions, for one pair of arguments.
type results struct {
	gcd, lcm, x, y, g, steps            int
	gcdErr, lcmErr, bezoutErr, stepsErr api.Errno
}

func call(a, b int) (r results) {
	r.gcd, r.gcdErr = euclid.Gcd(a, b)
	r.lcm, r.lcmErr = euclid.Lcm(a, b)
	r.x, r.y, r.g, r.bezoutErr = euclid.Bezout(a, b)
	r.steps, r.stepsErr = euclid.Steps(a, b)
	return r
}

func TestP2ResultsDependOnlyOnArguments(t *testing.T) {
	var first []results
	collect := func(a, b int) { first = append(first, call(a, b)) }
	eachExtremePair(collect)
	eachSmallPair(collect)
	i := 0
	compare := func(a, b int) {
		if again := call(a, b); again != first[i] {
			t.Errorf("(%d, %d): first %+v, then %+v", a, b, first[i], again)
		}
		i++
	}
	eachExtremePair(compare)
	eachSmallPair(compare)
}

func TestP2OtherResultsAreZeroWithAnError(t *testing.T) {
	eachExtremePair(func(a, b int) {
		r := call(a, b)
		if r.gcdErr != api.OK && r.gcd != 0 {
			t.Errorf("Gcd(%d, %d) = %d with error %d", a, b, r.gcd, r.gcdErr)
		}
		if r.lcmErr != api.OK && r.lcm != 0 {
			t.Errorf("Lcm(%d, %d) = %d with error %d", a, b, r.lcm, r.lcmErr)
		}
		if r.bezoutErr != api.OK && (r.x != 0 || r.y != 0 || r.g != 0) {
			t.Errorf("Bezout(%d, %d) = %d, %d, %d with error %d", a, b, r.x, r.y, r.g, r.bezoutErr)
		}
		if r.stepsErr != api.OK && r.steps != 0 {
			t.Errorf("Steps(%d, %d) = %d with error %d", a, b, r.steps, r.stepsErr)
		}
	})
}

func TestP3GcdAndLcmOfSmallNumbers(t *testing.T) {
	eachSmallPair(func(a, b int) {
		if g, err := euclid.Gcd(a, b); err != api.OK || g != searchGcd(a, b) {
			t.Errorf("Gcd(%d, %d) = %d, %d, want %d", a, b, g, err, searchGcd(a, b))
		}
		if l, err := euclid.Lcm(a, b); err != api.OK || l != searchLcm(a, b) {
			t.Errorf("Lcm(%d, %d) = %d, %d, want %d", a, b, l, err, searchLcm(a, b))
		}
	})
}

func TestP3GcdAndLcm(t *testing.T) {
	for _, c := range []struct{ a, b, gcd, lcm int }{
		{0, 0, 0, 0},
		{0, -7, 7, 0},
		{-7, 0, 7, 0},
		{12, 18, 6, 36},
		{-12, 18, 6, 36},
		{12, -18, 6, 36},
		{-12, -18, 6, 36},
		{most, 0, most, 0},
		{0, -most, most, 0},
		{most, most, most, most},
		{most, -most, most, most},
		{-most, -most, most, most},
		{most, most - 1, 1, most * (most - 1)},
		{-most, most - 1, 1, most * (most - 1)},
		{-most, 1 - most, 1, most * (most - 1)},
		{999999937, 999999929, 1, 999999937 * 999999929},
		{701408733, 433494437, 1, 701408733 * 433494437},
		{1 << 29, 1 << 20, 1 << 20, 1 << 29},
	} {
		if g, err := euclid.Gcd(c.a, c.b); err != api.OK || g != c.gcd {
			t.Errorf("Gcd(%d, %d) = %d, %d, want %d", c.a, c.b, g, err, c.gcd)
		}
		if l, err := euclid.Lcm(c.a, c.b); err != api.OK || l != c.lcm {
			t.Errorf("Lcm(%d, %d) = %d, %d, want %d", c.a, c.b, l, err, c.lcm)
		}
	}
}

// wantErr returns ErrArg unless both numbers are allowed.
func wantErr(a, b int) api.Errno {
	if allowed(a) && allowed(b) {
		return api.OK
	}
	return api.ErrArg
}

func TestP3Errors(t *testing.T) {
	eachExtremePair(func(a, b int) {
		if _, err := euclid.Gcd(a, b); err != wantErr(a, b) {
			t.Errorf("Gcd(%d, %d): error %d, want %d", a, b, err, wantErr(a, b))
		}
		if _, err := euclid.Lcm(a, b); err != wantErr(a, b) {
			t.Errorf("Lcm(%d, %d): error %d, want %d", a, b, err, wantErr(a, b))
		}
	})
}

func TestP4BezoutOfSmallNumbers(t *testing.T) {
	eachSmallPair(func(a, b int) {
		wantX, wantY := searchBezout(a, b)
		x, y, g, err := euclid.Bezout(a, b)
		if err != api.OK || x != wantX || y != wantY || g != searchGcd(a, b) {
			t.Errorf("Bezout(%d, %d) = %d, %d, %d, %d, want %d, %d, %d",
				a, b, x, y, g, err, wantX, wantY, searchGcd(a, b))
		}
	})
}

func TestP4Bezout(t *testing.T) {
	for _, c := range []struct{ a, b, x, y, g int }{
		{0, 0, 0, 0, 0},
		{5, 0, 1, 0, 5},
		{-5, 0, -1, 0, 5},
		{0, 5, 0, 1, 5},
		{0, -5, 0, -1, 5},
		{12, 18, 2, -1, 6},
		{most, 0, 1, 0, most},
		{-most, 0, -1, 0, most},
		{most, most, 0, 1, most},
		{-most, -most, 0, -1, most},
		{most, most - 1, 1, -1, 1},
		{most - 1, most, most - 1, 2 - most, 1},
		{1 - most, most, 1, 1, 1},
		{1 - most, -most, 1, -1, 1},
	} {
		x, y, g, err := euclid.Bezout(c.a, c.b)
		if err != api.OK || x != c.x || y != c.y || g != c.g {
			t.Errorf("Bezout(%d, %d) = %d, %d, %d, %d, want %d, %d, %d",
				c.a, c.b, x, y, g, err, c.x, c.y, c.g)
		}
	}
}

// checkBezout checks the three properties that together leave one right x.
func checkBezout(t *testing.T, a, b int) {
	x, y, g, err := euclid.Bezout(a, b)
	gcd, _ := euclid.Gcd(a, b)
	if err != api.OK || g != gcd || x*a+y*b != g || x < 0 || x >= size(b)/g {
		t.Errorf("Bezout(%d, %d) = %d, %d, %d, %d", a, b, x, y, g, err)
	}
}

func TestP4BezoutOfLargeNumbers(t *testing.T) {
	for a := most - 60; a <= most; a++ {
		for b := most - 60; b <= most; b++ {
			checkBezout(t, a, b)
			checkBezout(t, -a, b)
			checkBezout(t, a, -b)
			checkBezout(t, -a, -b)
			checkBezout(t, a, b-most/3)
			checkBezout(t, a-most/2, -b)
		}
	}
}

func TestP4Errors(t *testing.T) {
	eachExtremePair(func(a, b int) {
		if _, _, _, err := euclid.Bezout(a, b); err != wantErr(a, b) {
			t.Errorf("Bezout(%d, %d): error %d, want %d", a, b, err, wantErr(a, b))
		}
	})
}

func TestP5Steps(t *testing.T) {
	for _, c := range []struct{ a, b, want int }{
		{0, 0, 0},
		{7, 0, 0},
		{most, 0, 0},
		{0, 7, 1},
		{7, 7, 1},
		{1, 1, 1},
		{18, 6, 1},
		{6, 18, 2},
		{8, 5, 4},
		{5, 8, 5},
		{18, 12, 2},
		{12, 18, 3},
		{0, most, 1},
		{most, most, 1},
		{most, 1, 1},
		{1, most, 2},
		{most, most - 1, 2},
		{most - 1, most, 3},
		// Neighbours among the Fibonacci numbers take the most steps.
		{701408733, 433494437, 42},
		{433494437, 701408733, 43},
	} {
		if n, err := euclid.Steps(c.a, c.b); err != api.OK || n != c.want {
			t.Errorf("Steps(%d, %d) = %d, %d, want %d", c.a, c.b, n, err, c.want)
		}
	}
}

func TestP5StepsOfSmallNumbers(t *testing.T) {
	var count func(a, b int) int
	count = func(a, b int) int {
		if b == 0 {
			return 0
		}
		return 1 + count(b, a%b)
	}
	for a := 0; a <= small; a++ {
		for b := 0; b <= small; b++ {
			if n, err := euclid.Steps(a, b); err != api.OK || n != count(a, b) {
				t.Errorf("Steps(%d, %d) = %d, %d, want %d", a, b, n, err, count(a, b))
			}
		}
	}
}

func TestP5Errors(t *testing.T) {
	eachExtremePair(func(a, b int) {
		want := wantErr(a, b)
		if a < 0 || b < 0 {
			want = api.ErrArg
		}
		if _, err := euclid.Steps(a, b); err != want {
			t.Errorf("Steps(%d, %d): error %d, want %d", a, b, err, want)
		}
	})
}
