package divide_test

import (
	"math"
	"slices"
	"testing"

	"wholemend/api"
	"wholemend/divide"
)

const (
	most     = api.MaxPrime
	mostOf   = api.MaxLift
	greatest = api.MaxInt
)

// largest is the greatest prime up to most.
const largest = 999983

// outside are numbers that Divisors, Phi and Moebius don't allow.
var outside = []int{
	math.MinInt, math.MinInt + 1, math.MinInt32, -most, -12, -2, -1, 0,
	most + 1, most + 2, 1000003, api.MaxInt, math.MaxInt32, math.MaxInt - 1, math.MaxInt,
}

// samples are numbers at the bounds of what is allowed, and between them.
var samples = []int{
	1, 2, 3, 4, 6, 9, 12, 30, 36, 91, 97, 720, 1009, 510510, 524288, 720720, 994009,
	largest - 1, largest, largest + 1, most - 1, most,
}

// notValues are numbers that a list for Lift or Lower may not hold.
var notValues = []int{
	math.MinInt, math.MinInt + 1, math.MinInt32, -greatest - 2, -greatest - 1,
	greatest + 1, greatest + 2, math.MaxInt32, math.MaxInt - 1, math.MaxInt,
}

// lists are allowed for Lift and Lower.
func lists() [][]int {
	l := [][]int{nil, {}, {1, 2, 3, 4}, {1, 3, 4, 7}}
	for count := range mostOf + 1 {
		l = append(l, slices.Repeat([]int{greatest}, count), slices.Repeat([]int{-greatest}, count))
		for place := range count {
			one := make([]int, count)
			one[place] = 1
			l = append(l, one)
		}
	}
	return append(l, mixedLists()...)
}

// mixedLists are allowed lists of all lengths, with values of all sizes.
func mixedLists() [][]int {
	seed := uint32(1)
	next := func(below int) int {
		seed = seed*1664525 + 1013904223
		return int(seed>>1) % below
	}
	var l [][]int
	for _, bound := range []int{1, 9, 1000, greatest} {
		for range 4 {
			for count := range mostOf + 1 {
				list := make([]int, count)
				for i := range list {
					list[i] = next(2*bound+1) - bound
				}
				l = append(l, list)
			}
		}
	}
	return l
}

// notLists are not allowed for Lift and Lower.
func notLists() [][]int {
	var l [][]int
	for _, bad := range notValues {
		l = append(l, []int{bad}, []int{1, bad, 3}, slices.Repeat([]int{bad}, mostOf+1))
	}
	for _, count := range []int{mostOf + 1, mostOf + 2, 100, 1000} {
		l = append(l, make([]int, count), slices.Repeat([]int{7}, count))
	}
	return l
}

// sumOf returns the sum of f over the divisors of n.
func sumOf(f []int, n int) int {
	sum := 0
	for d := 1; d <= n; d++ {
		if n%d == 0 {
			sum += f[d-1]
		}
	}
	return sum
}

// sumsOf returns the divisor sums of f, as they are defined.
func sumsOf(f []int) []int {
	sums := make([]int, len(f))
	for i := range f {
		sums[i] = sumOf(f, i+1)
	}
	return sums
}

// searchDivisors tries every number whose square is at most n.
func searchDivisors(n int) []int {
	var low, high []int
	for d := 1; d*d <= n; d++ {
		if n%d == 0 {
			low = append(low, d)
			if d*d < n {
				high = append(high, n/d)
			}
		}
	}
	slices.Reverse(high)
	return append(low, high...)
}

// searchPhi counts the numbers that have no divisor in common with n.
func searchPhi(n int) int {
	gcd := func(a, b int) int {
		for b != 0 {
			a, b = b, a%b
		}
		return a
	}
	count := 0
	for a := 1; a <= n; a++ {
		if gcd(a, n) == 1 {
			count++
		}
	}
	return count
}

// searchMoebius tries every number as a prime divisor.
func searchMoebius(n int) int {
	sign := 1
	for p := 2; p <= n; p++ {
		if n%p != 0 || len(searchDivisors(p)) != 2 {
			continue
		}
		if n%(p*p) == 0 {
			return 0
		}
		sign = -sign
	}
	return sign
}

// without returns, for each n up to most, the function whose divisor sums are
// total. It needs no primes. Element 0 has no meaning.
func without(total func(n int) int) []int {
	f := make([]int, most+1)
	for n := 1; n <= most; n++ {
		f[n] = total(n)
	}
	for d := 1; d <= most; d++ {
		for n := 2 * d; n <= most; n += d {
			f[n] -= f[d]
		}
	}
	return f
}

// guard reports a panic of a call as an error.
func guard(t *testing.T, what any, call func()) {
	t.Helper()
	defer func() {
		if r := recover(); r != nil {
			t.Errorf("%v panics: %v", what, r)
		}
	}()
	call()
}

func TestP1NoArgumentPanics(t *testing.T) {
	for _, n := range slices.Concat(outside, samples) {
		guard(t, n, func() { divide.Divisors(n) })
		guard(t, n, func() { divide.Phi(n) })
		guard(t, n, func() { divide.Moebius(n) })
	}
	for _, f := range slices.Concat(lists(), notLists()) {
		guard(t, f, func() { divide.Lift(f) })
		guard(t, f, func() { divide.Lower(f) })
	}
}

// results of all functions, where lists stand one behind the other.
type results struct {
	lists   [][]int
	numbers []int
	errs    []api.Errno
}

func callAll() (r results) {
	addList := func(l []int, err api.Errno) {
		r.lists, r.errs = append(r.lists, l), append(r.errs, err)
	}
	addNumber := func(n int, err api.Errno) {
		r.numbers, r.errs = append(r.numbers, n), append(r.errs, err)
	}
	for _, n := range slices.Concat(outside, samples) {
		addList(divide.Divisors(n))
		addNumber(divide.Phi(n))
		addNumber(divide.Moebius(n))
	}
	for _, f := range slices.Concat(lists(), notLists()) {
		addList(divide.Lift(f))
		addList(divide.Lower(f))
	}
	return r
}

func TestP2ResultsDependOnlyOnArguments(t *testing.T) {
	first, again := callAll(), callAll()
	if !slices.Equal(first.numbers, again.numbers) || !slices.Equal(first.errs, again.errs) ||
		!slices.EqualFunc(first.lists, again.lists, slices.Equal[[]int]) {
		t.Errorf("first %+v, then %+v", first, again)
	}
}

func TestP2DivisorsAreNewMemory(t *testing.T) {
	for _, n := range samples {
		want := searchDivisors(n)
		first, _ := divide.Divisors(n)
		second, _ := divide.Divisors(n)
		spoil(first)
		// Before the third call, which could put shared memory right again.
		if !slices.Equal(second, want) {
			t.Errorf("Divisors(%d) is %v after a change of another, want %v", n, second, want)
		}
		third, _ := divide.Divisors(n)
		if !slices.Equal(third, want) {
			t.Errorf("Divisors(%d) is then %v, want %v", n, third, want)
		}
	}
}

// spoil overwrites a list, with what lies behind its length, which is the
// caller's, too.
func spoil(l []int) {
	spare := l[:cap(l)]
	for i := range spare {
		spare[i] = -77
	}
}

func TestP2ListsAreNewMemory(t *testing.T) {
	call := func(name string, function func([]int) ([]int, api.Errno)) {
		for _, f := range lists() {
			whole := append(slices.Clone(f), -5, -6, -5)
			was := slices.Clone(whole)
			first, _ := function(whole[:len(f)])
			want := slices.Clone(first)
			second, _ := function(whole[:len(f)])
			spoil(first)
			if !slices.Equal(second, want) {
				t.Errorf("%s(%v) is %v after a change of another, want %v", name, f, second, want)
			}
			if !slices.Equal(whole, was) {
				t.Errorf("%s: the argument %v became %v", name, was, whole)
			}
			spoil(whole)
			if !slices.Equal(second, want) {
				t.Errorf("%s(%v) is %v after a change of its argument, want %v", name, f, second, want)
			}
			if third, _ := function(f); !slices.Equal(third, want) {
				t.Errorf("%s(%v) is then %v, want %v", name, f, third, want)
			}
		}
	}
	call("Lift", divide.Lift)
	call("Lower", divide.Lower)
}

func TestP2ArgumentsStayAsTheyAre(t *testing.T) {
	for _, f := range slices.Concat(lists(), notLists()) {
		// What lies behind the length stays, too.
		whole := append(slices.Clone(f), -5, -6)
		want := slices.Clone(whole)
		divide.Lift(whole[:len(f)])
		divide.Lower(whole[:len(f)])
		if !slices.Equal(whole, want) {
			t.Errorf("%v became %v", want, whole)
		}
	}
}

func TestP2OtherResultsAreZeroWithAnError(t *testing.T) {
	for _, n := range outside {
		if l, err := divide.Divisors(n); err == api.OK || len(l) != 0 {
			t.Errorf("Divisors(%d) = %v with error %d", n, l, err)
		}
		if phi, err := divide.Phi(n); err == api.OK || phi != 0 {
			t.Errorf("Phi(%d) = %d with error %d", n, phi, err)
		}
		if sign, err := divide.Moebius(n); err == api.OK || sign != 0 {
			t.Errorf("Moebius(%d) = %d with error %d", n, sign, err)
		}
	}
	for _, f := range notLists() {
		if sums, err := divide.Lift(f); err == api.OK || len(sums) != 0 {
			t.Errorf("Lift(%v) = %v with error %d", f, sums, err)
		}
		if values, err := divide.Lower(f); err == api.OK || len(values) != 0 {
			t.Errorf("Lower(%v) = %v with error %d", f, values, err)
		}
	}
}

func TestP16Divisors(t *testing.T) {
	for _, c := range []struct {
		n    int
		want []int
	}{
		{1, []int{1}},
		{2, []int{1, 2}},
		{4, []int{1, 2, 4}},
		{6, []int{1, 2, 3, 6}},
		{12, []int{1, 2, 3, 4, 6, 12}},
		{36, []int{1, 2, 3, 4, 6, 9, 12, 18, 36}},
		{91, []int{1, 7, 13, 91}},
		{97, []int{1, 97}},
		{994009, []int{1, 997, 994009}},
		{999958, []int{1, 2, 499979, 999958}},
		{largest, []int{1, largest}},
	} {
		if l, err := divide.Divisors(c.n); err != api.OK || !slices.Equal(l, c.want) {
			t.Errorf("Divisors(%d) = %v, %d, want %v", c.n, l, err, c.want)
		}
	}
}

func TestP16DivisorsOfNumbers(t *testing.T) {
	check := func(n int) {
		l, err := divide.Divisors(n)
		if want := searchDivisors(n); err != api.OK || !slices.Equal(l, want) {
			t.Fatalf("Divisors(%d) = %v, %d, want %v", n, l, err, want)
		}
	}
	for n := 1; n <= 20000; n++ {
		check(n)
	}
	for n := 20000; n <= most; n += 41 {
		check(n)
	}
	for n := most - 3000; n <= most; n++ {
		check(n)
	}
	for _, n := range samples {
		check(n)
	}
}

func TestP16Errors(t *testing.T) {
	for _, n := range outside {
		if _, err := divide.Divisors(n); err != api.ErrArg {
			t.Errorf("Divisors(%d): error %d, want %d", n, err, api.ErrArg)
		}
	}
}

func TestP17Phi(t *testing.T) {
	for _, c := range []struct{ n, want int }{
		{1, 1},
		{2, 1},
		{3, 2},
		{4, 2},
		{6, 2},
		{12, 4},
		{36, 12},
		{91, 72},
		{97, 96},
		{510510, 92160},
		{524288, 262144},
		{994009, 997 * 996},
		{largest, largest - 1},
		{most, 400000},
	} {
		if phi, err := divide.Phi(c.n); err != api.OK || phi != c.want {
			t.Errorf("Phi(%d) = %d, %d, want %d", c.n, phi, err, c.want)
		}
	}
}

func TestP17PhiOfSmallNumbers(t *testing.T) {
	for n := 1; n <= 1000; n++ {
		if phi, err := divide.Phi(n); err != api.OK || phi != searchPhi(n) {
			t.Errorf("Phi(%d) = %d, %d, want %d", n, phi, err, searchPhi(n))
		}
	}
}

func TestP17PhiOfEveryNumber(t *testing.T) {
	// The sum of the totients of all divisors of a number is the number.
	for n, want := range without(func(n int) int { return n }) {
		if n == 0 {
			continue
		}
		if phi, err := divide.Phi(n); err != api.OK || phi != want {
			t.Fatalf("Phi(%d) = %d, %d, want %d", n, phi, err, want)
		}
	}
}

func TestP17Errors(t *testing.T) {
	for _, n := range outside {
		if _, err := divide.Phi(n); err != api.ErrArg {
			t.Errorf("Phi(%d): error %d, want %d", n, err, api.ErrArg)
		}
	}
}

func TestP18Moebius(t *testing.T) {
	for _, c := range []struct{ n, want int }{
		{1, 1},
		{2, -1},
		{3, -1},
		{4, 0},
		{6, 1},
		{8, 0},
		{9, 0},
		{12, 0},
		{30, -1},
		{50, 0},
		{91, 1},
		{210, 1},
		{30030, 1},
		{510510, -1},
		{524288, 0},
		{994009, 0},
		{999958, 1},
		{largest, -1},
		{most, 0},
	} {
		if sign, err := divide.Moebius(c.n); err != api.OK || sign != c.want {
			t.Errorf("Moebius(%d) = %d, %d, want %d", c.n, sign, err, c.want)
		}
	}
}

func TestP18MoebiusOfSmallNumbers(t *testing.T) {
	for n := 1; n <= 1000; n++ {
		if sign, err := divide.Moebius(n); err != api.OK || sign != searchMoebius(n) {
			t.Errorf("Moebius(%d) = %d, %d, want %d", n, sign, err, searchMoebius(n))
		}
	}
}

func TestP18MoebiusOfEveryNumber(t *testing.T) {
	// The sum over all divisors of a number is 0, but for the number 1.
	onlyAtOne := func(n int) int {
		if n == 1 {
			return 1
		}
		return 0
	}
	for n, want := range without(onlyAtOne) {
		if n == 0 {
			continue
		}
		if sign, err := divide.Moebius(n); err != api.OK || sign != want {
			t.Fatalf("Moebius(%d) = %d, %d, want %d", n, sign, err, want)
		}
	}
}

func TestP18Errors(t *testing.T) {
	for _, n := range outside {
		if _, err := divide.Moebius(n); err != api.ErrArg {
			t.Errorf("Moebius(%d): error %d, want %d", n, err, api.ErrArg)
		}
	}
}

// pairs are lists and their divisor sums, which are allowed values, too.
var pairs = []struct{ values, sums []int }{
	{nil, nil},
	{[]int{}, []int{}},
	{[]int{0}, []int{0}},
	{[]int{-7}, []int{-7}},
	{[]int{greatest}, []int{greatest}},
	{[]int{-greatest}, []int{-greatest}},
	{[]int{1, 1, 1, 1}, []int{1, 2, 2, 3}},
	{[]int{1, 2, 3, 4}, []int{1, 3, 4, 7}},
	{[]int{1, 1, 2, 2, 4, 2, 6, 4}, []int{1, 2, 3, 4, 5, 6, 7, 8}},
	{[]int{1, -1, -1, 0, -1, 1, -1, 0, 0, 1}, []int{1, 0, 0, 0, 0, 0, 0, 0, 0, 0}},
	{[]int{greatest, -greatest, 0, 0}, []int{greatest, 0, greatest, 0}},
}

func TestP19Lift(t *testing.T) {
	for _, c := range pairs {
		if sums, err := divide.Lift(c.values); err != api.OK || !slices.Equal(sums, c.sums) {
			t.Errorf("Lift(%v) = %v, %d, want %v", c.values, sums, err, c.sums)
		}
	}
}

func TestP19LiftOfLists(t *testing.T) {
	for _, f := range lists() {
		if sums, err := divide.Lift(f); err != api.OK || !slices.Equal(sums, sumsOf(f)) {
			t.Errorf("Lift(%v) = %v, %d, want %v", f, sums, err, sumsOf(f))
		}
	}
}

func TestP19LiftBeyondTheBound(t *testing.T) {
	// 60 has twelve divisors; only the values of f have bounds, not the sums.
	for _, value := range []int{greatest, -greatest} {
		sums, err := divide.Lift(slices.Repeat([]int{value}, mostOf))
		if err != api.OK || len(sums) != mostOf || sums[59] != 12*value || sums[58] != 2*value {
			t.Errorf("Lift of %d everywhere = %v, %d", value, sums, err)
		}
	}
}

func TestP20Lower(t *testing.T) {
	for _, c := range pairs {
		if values, err := divide.Lower(c.sums); err != api.OK || !slices.Equal(values, c.values) {
			t.Errorf("Lower(%v) = %v, %d, want %v", c.sums, values, err, c.values)
		}
	}
}

func TestP20LowerOfLists(t *testing.T) {
	for _, f := range lists() {
		// Only one list has these divisor sums.
		values, err := divide.Lower(f)
		if err != api.OK || !slices.Equal(sumsOf(values), f) {
			t.Errorf("Lower(%v) = %v, %d", f, values, err)
		}
	}
}

func TestP20LowerUndoesLift(t *testing.T) {
	for _, f := range lists() {
		sums, err := divide.Lift(f)
		if err != api.OK {
			t.Fatalf("Lift(%v): error %d", f, err)
		}
		wantErr := api.OK
		if slices.ContainsFunc(sums, func(n int) bool { return n < -greatest || n > greatest }) {
			wantErr = api.ErrArg
		}
		values, err := divide.Lower(sums)
		if err != wantErr || err == api.OK && !slices.Equal(values, f) {
			t.Errorf("Lower(%v) = %v, %d, want %v, %d", sums, values, err, f, wantErr)
		}
	}
}

func TestP20LowerBeyondTheBound(t *testing.T) {
	// The eight divisors of 30 are added and subtracted as Moebius says.
	f := make([]int, 30)
	for _, d := range []int{1, 6, 10, 15} {
		f[d-1] = -greatest
	}
	for _, d := range []int{2, 3, 5, 30} {
		f[d-1] = greatest
	}
	values, err := divide.Lower(f)
	if err != api.OK || len(values) != 30 || values[29] != 8*greatest {
		t.Errorf("Lower(%v) = %v, %d, want %d at the end", f, values, err, 8*greatest)
	}
}

func TestP19And20WrongValues(t *testing.T) {
	check := func(f []int, want api.Errno) {
		t.Helper()
		if sums, err := divide.Lift(f); err != want || len(sums) != 0 {
			t.Errorf("Lift(%v) = %v, %d, want error %d", f, sums, err, want)
		}
		if values, err := divide.Lower(f); err != want || len(values) != 0 {
			t.Errorf("Lower(%v) = %v, %d, want error %d", f, values, err, want)
		}
	}
	for _, bad := range notValues {
		for place := range mostOf {
			f := slices.Repeat([]int{7}, mostOf)
			f[place] = bad
			check(f, api.ErrArg)
			check(f[:place+1], api.ErrArg)
			check(f[place:], api.ErrArg)
		}
		// Too many of them come before a wrong one.
		for _, place := range []int{0, mostOf - 1, mostOf} {
			f := slices.Repeat([]int{7}, mostOf+1)
			f[place] = bad
			check(f, api.ErrLarge)
		}
	}
}

func TestP19And20TooManyValues(t *testing.T) {
	full := slices.Repeat([]int{7}, mostOf)
	if _, err := divide.Lift(full); err != api.OK {
		t.Errorf("Lift of %d values: error %d", mostOf, err)
	}
	if _, err := divide.Lower(full); err != api.OK {
		t.Errorf("Lower of %d values: error %d", mostOf, err)
	}
	for _, count := range []int{mostOf + 1, mostOf + 2, 100, 1000} {
		f := slices.Repeat([]int{7}, count)
		if sums, err := divide.Lift(f); err != api.ErrLarge || len(sums) != 0 {
			t.Errorf("Lift of %d values = %v, %d, want error %d", count, sums, err, api.ErrLarge)
		}
		if values, err := divide.Lower(f); err != api.ErrLarge || len(values) != 0 {
			t.Errorf("Lower of %d values = %v, %d, want error %d", count, values, err, api.ErrLarge)
		}
	}
}
