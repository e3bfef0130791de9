package prime_test

import (
	"math"
	"slices"
	"testing"

	"wholemend/api"
	"wholemend/prime"
)

const most = api.MaxPrime

// largest is the greatest prime up to most.
const largest = 999983

// outside are numbers that no function of the package allows.
var outside = []int{
	math.MinInt, math.MinInt + 1, math.MinInt32, -most, -2, -1,
	most + 1, most + 2, 1000003, math.MaxInt32, math.MaxInt - 1, math.MaxInt,
}

// samples are numbers at the bounds of what is allowed, and between them.
var samples = []int{
	0, 1, 2, 3, 4, 9, 91, 97, 720, 1009, 510510, 524288, 994009,
	largest - 1, largest, largest + 1, most - 1, most,
}

// sieve returns, for each number up to most, whether it is prime.
func sieve() []bool {
	is := make([]bool, most+1)
	for n := 2; n <= most; n++ {
		is[n] = true
	}
	for p := 2; p*p <= most; p++ {
		if is[p] {
			for m := p * p; m <= most; m += p {
				is[m] = false
			}
		}
	}
	return is
}

func TestP1NoArgumentPanics(t *testing.T) {
	for _, n := range slices.Concat(outside, samples) {
		func() {
			defer func() {
				if r := recover(); r != nil {
					t.Errorf("%d panics: %v", n, r)
				}
			}()
			prime.Is(n)
			prime.Next(n)
			prime.Factor(n)
		}()
	}
}

func TestP2ResultsDependOnlyOnArguments(t *testing.T) {
	type results struct {
		is                       bool
		next                     int
		powers                   []api.Power
		isErr, nextErr, powerErr api.Errno
	}
	call := func(n int) (r results) {
		r.is, r.isErr = prime.Is(n)
		r.next, r.nextErr = prime.Next(n)
		r.powers, r.powerErr = prime.Factor(n)
		return r
	}
	numbers := slices.Concat(outside, samples)
	var first []results
	for _, n := range numbers {
		first = append(first, call(n))
	}
	for i, n := range numbers {
		again, was := call(n), first[i]
		if again.is != was.is || again.isErr != was.isErr ||
			again.next != was.next || again.nextErr != was.nextErr ||
			!slices.Equal(again.powers, was.powers) || again.powerErr != was.powerErr {
			t.Errorf("%d: first %+v, then %+v", n, was, again)
		}
	}
}

func TestP2FactorsAreNewMemory(t *testing.T) {
	for n := 1; n <= 5000; n++ {
		first, _ := prime.Factor(n)
		want := slices.Clone(first)
		second, _ := prime.Factor(n)
		// What lies behind the length is the caller's, too.
		spare := first[:cap(first)]
		for i := range spare {
			spare[i] = api.Power{P: -1, N: -1}
		}
		// Before the third call, which could put shared memory right again.
		if !slices.Equal(second, want) {
			t.Fatalf("Factor(%d) is %v after a change of another, want %v", n, second, want)
		}
		third, _ := prime.Factor(n)
		if !slices.Equal(third, want) {
			t.Fatalf("Factor(%d) is then %v, want %v", n, third, want)
		}
	}
}

func TestP2OtherResultsAreZeroWithAnError(t *testing.T) {
	for _, n := range append(slices.Clone(outside), 0, largest+1, most) {
		if is, err := prime.Is(n); err != api.OK && is {
			t.Errorf("Is(%d) = true with error %d", n, err)
		}
		if p, err := prime.Next(n); err != api.OK && p != 0 {
			t.Errorf("Next(%d) = %d with error %d", n, p, err)
		}
		if powers, err := prime.Factor(n); err != api.OK && len(powers) != 0 {
			t.Errorf("Factor(%d) = %v with error %d", n, powers, err)
		}
	}
}

func TestP6IsOfEveryNumber(t *testing.T) {
	for n, want := range sieve() {
		if is, err := prime.Is(n); err != api.OK || is != want {
			t.Fatalf("Is(%d) = %t, %d, want %t", n, is, err, want)
		}
	}
}

func TestP6Is(t *testing.T) {
	for _, c := range []struct {
		n    int
		want bool
	}{
		{0, false},
		{1, false},
		{2, true},
		{3, true},
		{4, false},
		{9, false},
		{25, false},
		{91, false},
		{97, true},
		{561, false},
		{997, true},
		{1009, true},
		{994009, false}, // the square of 997
		{largest, true},
		{most - 1, false},
		{most, false},
	} {
		if is, err := prime.Is(c.n); err != api.OK || is != c.want {
			t.Errorf("Is(%d) = %t, %d, want %t", c.n, is, err, c.want)
		}
	}
}

func TestP6Errors(t *testing.T) {
	for _, n := range outside {
		if _, err := prime.Is(n); err != api.ErrArg {
			t.Errorf("Is(%d): error %d, want %d", n, err, api.ErrArg)
		}
	}
}

func TestP7NextOfEveryNumber(t *testing.T) {
	is := sieve()
	want, wantErr := 0, api.ErrNone
	for n := most; n >= 0; n-- {
		if is[n] {
			want, wantErr = n, api.OK
		}
		if p, err := prime.Next(n); err != wantErr || p != want {
			t.Fatalf("Next(%d) = %d, %d, want %d, %d", n, p, err, want, wantErr)
		}
	}
}

func TestP7Next(t *testing.T) {
	for _, c := range []struct{ n, want int }{
		{0, 2},
		{1, 2},
		{2, 2},
		{3, 3},
		{4, 5},
		{8, 11},
		{90, 97},
		{97, 97},
		{98, 101},
		{492114, 492227}, // the longest gap there is
		{largest - 1, largest},
		{largest, largest},
	} {
		if p, err := prime.Next(c.n); err != api.OK || p != c.want {
			t.Errorf("Next(%d) = %d, %d, want %d", c.n, p, err, c.want)
		}
	}
}

func TestP7Errors(t *testing.T) {
	for _, n := range outside {
		if _, err := prime.Next(n); err != api.ErrArg {
			t.Errorf("Next(%d): error %d, want %d", n, err, api.ErrArg)
		}
	}
	for n := largest + 1; n <= most; n++ {
		if _, err := prime.Next(n); err != api.ErrNone {
			t.Errorf("Next(%d): error %d, want %d", n, err, api.ErrNone)
		}
	}
}

// checkFactor checks that the powers are of different primes, in order, and
// that they make n: there is only one such list.
func checkFactor(t *testing.T, n int, is []bool) {
	powers, err := prime.Factor(n)
	product, last := 1, 1
	ok := err == api.OK
	for _, power := range powers {
		ok = ok && power.P > last && power.P <= most && is[power.P] && power.N > 0
		if !ok {
			break
		}
		last = power.P
		for i := 0; i < power.N && product <= n; i++ {
			product *= power.P
		}
	}
	if !ok || product != n {
		t.Fatalf("Factor(%d) = %v, %d", n, powers, err)
	}
}

func TestP8FactorOfNumbers(t *testing.T) {
	is := sieve()
	for n := 1; n <= 50000; n++ {
		checkFactor(t, n, is)
	}
	for n := 50000; n <= most; n += 37 {
		checkFactor(t, n, is)
	}
	for n := most - 5000; n <= most; n++ {
		checkFactor(t, n, is)
	}
}

func TestP8Factor(t *testing.T) {
	for _, c := range []struct {
		n    int
		want []api.Power
	}{
		{1, nil},
		{2, []api.Power{{P: 2, N: 1}}},
		{4, []api.Power{{P: 2, N: 2}}},
		{12, []api.Power{{P: 2, N: 2}, {P: 3, N: 1}}},
		{91, []api.Power{{P: 7, N: 1}, {P: 13, N: 1}}},
		{720, []api.Power{{P: 2, N: 4}, {P: 3, N: 2}, {P: 5, N: 1}}},
		{510510, []api.Power{
			{P: 2, N: 1}, {P: 3, N: 1}, {P: 5, N: 1}, {P: 7, N: 1},
			{P: 11, N: 1}, {P: 13, N: 1}, {P: 17, N: 1},
		}},
		{524288, []api.Power{{P: 2, N: 19}}},
		{531441, []api.Power{{P: 3, N: 12}}},
		{994009, []api.Power{{P: 997, N: 2}}},
		{999958, []api.Power{{P: 2, N: 1}, {P: 499979, N: 1}}},
		{largest, []api.Power{{P: largest, N: 1}}},
		{most, []api.Power{{P: 2, N: 6}, {P: 5, N: 6}}},
	} {
		if powers, err := prime.Factor(c.n); err != api.OK || !slices.Equal(powers, c.want) {
			t.Errorf("Factor(%d) = %v, %d, want %v", c.n, powers, err, c.want)
		}
	}
}

func TestP8Errors(t *testing.T) {
	for _, n := range append(slices.Clone(outside), 0) {
		if _, err := prime.Factor(n); err != api.ErrArg {
			t.Errorf("Factor(%d): error %d, want %d", n, err, api.ErrArg)
		}
	}
}
