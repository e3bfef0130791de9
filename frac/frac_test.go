package frac_test

import (
	"math"
	"math/big"
	"slices"
	"testing"

	"wholemend/api"
	"wholemend/frac"
)

const most = api.MaxMod

// parts are allowed for numerators, and all but 0 for denominators.
var parts = []int{
	0, 1, 2, 3, 4, 5, 7, 12, 13, 30, 31, 89, 144, 997, 1000, 1001, 65536, 333333, 499999,
	500000, 500001, 514229, 666667, 832040, 999983, most - 2, most - 1, most,
}

// notParts are allowed for neither of them.
var notParts = []int{
	math.MinInt, math.MinInt + 1, math.MinInt32, -most - 1, -most, -7, -2, -1,
	most + 1, most + 2, api.MaxInt, math.MaxInt32, 1 << 40, math.MaxInt - 1, math.MaxInt,
}

// bounds are allowed for the greatest denominator in Near.
var bounds = []int{
	1, 2, 3, 4, 5, 6, 7, 11, 12, 13, 29, 30, 31, 143, 144, 145, 1000, 65535, 333333, 499999,
	500000, 514228, 514229, 832039, 832040, 999983, most - 1, most,
}

// notBounds are not allowed for it.
var notBounds = append([]int{0}, notParts...)

// notOrders are not allowed for Farey.
var notOrders = append([]int{0, api.MaxFarey + 1, api.MaxFarey + 2, 100, most}, notParts...)

// fractions are allowed for Of and Near: not all of them are in lowest terms.
func fractions() []api.Fraction {
	var l []api.Fraction
	for _, p := range parts {
		for _, q := range parts[1:] {
			l = append(l, api.Fraction{P: p, Q: q})
		}
	}
	return l
}

// notFractions are not allowed for Of and Near.
func notFractions() []api.Fraction {
	var l []api.Fraction
	for _, bad := range notParts {
		for _, good := range parts {
			l = append(l, api.Fraction{P: bad, Q: good}, api.Fraction{P: good, Q: bad})
		}
		for _, other := range notParts {
			l = append(l, api.Fraction{P: bad, Q: other})
		}
		l = append(l, api.Fraction{P: bad, Q: 0})
	}
	for _, p := range parts {
		l = append(l, api.Fraction{P: p, Q: 0})
	}
	return l
}

// termLists are right for Value, but for some of them the value is too large.
func termLists() [][]int {
	l := [][]int{{0}, {0, 1}, {0, most}, {most}, {most, 1}, {1, most}, {2, 3, 4}, {most, most, most}}
	for count := 1; count <= 70; count++ {
		ones := slices.Repeat([]int{1}, count)
		l = append(l, ones, append([]int{0}, ones...), append([]int{most}, ones...),
			slices.Repeat([]int{2}, count), slices.Repeat([]int{most}, count))
	}
	for _, x := range fractions() {
		l = append(l, continued(x))
	}
	return append(l, mixedLists()...)
}

// mixedLists are lists of different lengths, with numbers of all sizes.
func mixedLists() [][]int {
	next := numbers()
	var l [][]int
	for range 20000 {
		list := []int{next(4)}
		for range next(9) {
			list = append(list, 1+next([]int{2, 9, 100, most}[next(4)]))
		}
		l = append(l, list)
	}
	return l
}

// notTermLists are wrong for Value.
func notTermLists() [][]int {
	var l [][]int
	for _, bad := range notParts {
		l = append(l, []int{bad}, []int{bad, 0}, []int{bad, 2, 3})
	}
	for _, bad := range notBounds {
		l = append(l, []int{1, bad}, []int{0, bad}, []int{1, bad, 3}, []int{1, 2, bad})
		// Neither the length nor what is too large comes before a wrong number.
		for _, place := range []int{1, 2, 50, 98, 99} {
			long := slices.Repeat([]int{most}, 100)
			long[place] = bad
			l = append(l, long)
		}
	}
	return l
}

// numbers returns a function for numbers from 0 to below - 1, always the same.
func numbers() func(below int) int {
	seed := uint32(1)
	return func(below int) int {
		seed = seed*1664525 + 1013904223
		return int(seed>>8) % below
	}
}

// continued returns the continued fraction of x, by its definition.
func continued(x api.Fraction) []int {
	l := []int{x.P / x.Q}
	if x.P%x.Q != 0 {
		l = append(l, continued(api.Fraction{P: x.Q, Q: x.P % x.Q})...)
	}
	return l
}

// lowest returns x in lowest terms.
func lowest(x api.Fraction) api.Fraction {
	r := big.NewRat(int64(x.P), int64(x.Q))
	return api.Fraction{P: int(r.Num().Int64()), Q: int(r.Denom().Int64())}
}

// less compares fractions whose products stay in the range of an int.
func less(a, b api.Fraction) bool { return a.P*b.Q < b.P*a.Q }

// worth returns the value of a continued fraction by its definition, with
// numbers without bounds, and whether it or that of a rest is too large.
func worth(l []int) (*big.Rat, bool) {
	value := new(big.Rat).SetInt64(int64(l[0]))
	large := false
	if len(l) > 1 {
		var rest *big.Rat
		rest, large = worth(l[1:])
		value.Add(value, rest.Inv(rest))
	}
	bound := big.NewInt(most)
	return value, large || value.Num().Cmp(bound) > 0 || value.Denom().Cmp(bound) > 0
}

// searchNear tries every denominator.
func searchNear(x api.Fraction, bound int) (low, high api.Fraction) {
	low, high = api.Fraction{P: 0, Q: 1}, api.Fraction{P: x.P + 1, Q: 1}
	for q := 1; q <= bound; q++ {
		below := api.Fraction{P: x.P * q / x.Q, Q: q}
		above := api.Fraction{P: (x.P*q + x.Q - 1) / x.Q, Q: q}
		if less(low, below) {
			low = below
		}
		if less(above, high) {
			high = above
		}
	}
	return low, high
}

// searchFarey takes what is in lowest terms, and sorts it.
func searchFarey(n int) []api.Fraction {
	var l []api.Fraction
	for q := 1; q <= n; q++ {
		for p := 0; p <= q; p++ {
			x := api.Fraction{P: p, Q: q}
			if x == lowest(x) {
				l = append(l, x)
			}
		}
	}
	slices.SortFunc(l, func(a, b api.Fraction) int { return a.P*b.Q - b.P*a.Q })
	return l
}

func checkOf(t *testing.T, x api.Fraction, want []int) {
	t.Helper()
	if l, err := frac.Of(x); err != api.OK || !slices.Equal(l, want) {
		t.Errorf("Of(%v) = %v, %d, want %v", x, l, err, want)
	}
}

func checkValue(t *testing.T, l []int, want api.Fraction, wantErr api.Errno) {
	t.Helper()
	if x, err := frac.Value(l); err != wantErr || x != want {
		t.Errorf("Value(%v) = %v, %d, want %v, %d", l, x, err, want, wantErr)
	}
}

func checkNear(t *testing.T, x api.Fraction, bound int, wantLow, wantHigh api.Fraction) {
	t.Helper()
	if low, high, err := frac.Near(x, bound); err != api.OK || low != wantLow || high != wantHigh {
		t.Errorf("Near(%v, %d) = %v, %v, %d, want %v, %v", x, bound, low, high, err, wantLow, wantHigh)
	}
}

// checkNearest checks the properties that together leave one right result.
func checkNearest(t *testing.T, x api.Fraction, bound int) {
	t.Helper()
	if same := lowest(x); same.Q <= bound {
		checkNear(t, x, bound, same, same)
		return
	}
	low, high, err := frac.Near(x, bound)
	if err != api.OK || low.P < 0 || low.Q < 1 || low.Q > bound || high.Q < 1 || high.Q > bound ||
		!less(low, x) || !less(x, high) {
		t.Errorf("Near(%v, %d) = %v, %v, %d", x, bound, low, high, err)
	}
	// If the difference is 1 by the product of the denominators, then both are
	// in lowest terms, and what lies between has at least their sum as its own.
	if high.P*low.Q-low.P*high.Q != 1 || low.Q+high.Q <= bound {
		t.Errorf("Near(%v, %d) = %v, %v: others are nearer", x, bound, low, high)
	}
}

// results of all functions, where lists stand one behind the other.
type results struct {
	numbers   [][]int
	fractions [][]api.Fraction
	errs      []api.Errno
}

func (r *results) add(numbers []int, fractions []api.Fraction, err api.Errno) {
	r.numbers = append(r.numbers, numbers)
	r.fractions = append(r.fractions, fractions)
	r.errs = append(r.errs, err)
}

// callAll calls every function with arguments that are allowed and others.
func callAll() (r results) {
	for _, x := range slices.Concat(fractions(), notFractions()) {
		l, err := frac.Of(x)
		r.add(l, nil, err)
		for _, bound := range slices.Concat(bounds, notBounds) {
			low, high, err := frac.Near(x, bound)
			r.add(nil, []api.Fraction{low, high}, err)
		}
	}
	for _, l := range slices.Concat(termLists(), notTermLists(), [][]int{nil, {}}) {
		x, err := frac.Value(l)
		r.add(nil, []api.Fraction{x}, err)
	}
	for n := -2; n <= api.MaxFarey+2; n++ {
		l, err := frac.Farey(n)
		r.add(nil, l, err)
	}
	for _, n := range notOrders {
		l, err := frac.Farey(n)
		r.add(nil, l, err)
	}
	return r
}

func TestP1NoArgumentPanics(t *testing.T) {
	guard := func(what any, call func()) {
		defer func() {
			if r := recover(); r != nil {
				t.Errorf("%v panics: %v", what, r)
			}
		}()
		call()
	}
	for _, x := range slices.Concat(fractions(), notFractions()) {
		guard(x, func() { frac.Of(x) })
		for _, bound := range slices.Concat(bounds, notBounds) {
			guard(x, func() { frac.Near(x, bound) })
		}
	}
	for _, l := range slices.Concat(termLists(), notTermLists(), [][]int{nil, {}}) {
		guard(l, func() { frac.Value(l) })
	}
	for _, n := range slices.Concat(bounds, notOrders) {
		guard(n, func() { frac.Farey(n) })
	}
}

func TestP2ResultsDependOnlyOnArguments(t *testing.T) {
	first, again := callAll(), callAll()
	for i, err := range again.errs {
		if err != first.errs[i] || !slices.Equal(again.numbers[i], first.numbers[i]) ||
			!slices.Equal(again.fractions[i], first.fractions[i]) {
			t.Errorf("call %d: first %v, %v, %d, then %v, %v, %d", i, first.numbers[i],
				first.fractions[i], first.errs[i], again.numbers[i], again.fractions[i], err)
		}
	}
}

func TestP2OtherResultsAreZeroWithAnError(t *testing.T) {
	r := callAll()
	for i, err := range r.errs {
		if err == api.OK {
			continue
		}
		isNotZero := func(x api.Fraction) bool { return x != api.Fraction{} }
		if len(r.numbers[i]) != 0 || slices.ContainsFunc(r.fractions[i], isNotZero) {
			t.Errorf("call %d: %v, %v with error %d", i, r.numbers[i], r.fractions[i], err)
		}
	}
}

func TestP2ArgumentsStayAsTheyAre(t *testing.T) {
	for _, l := range slices.Concat(termLists(), notTermLists(), [][]int{nil, {}}) {
		// What lies behind the length stays, too.
		whole := append(slices.Clone(l), -5, -6)
		want := slices.Clone(whole)
		frac.Value(whole[:len(l)])
		if !slices.Equal(whole, want) {
			t.Errorf("%v became %v", want, whole)
		}
	}
}

// checkNewMemory changes one result of a call, which must not change others.
func checkNewMemory[E comparable](t *testing.T, what any, want []E, bad E, call func() []E) {
	t.Helper()
	first, second := call(), call()
	// What lies behind the length is the caller's, too.
	spare := first[:cap(first)]
	for i := range spare {
		spare[i] = bad
	}
	// Before the third call, which could put shared memory right again.
	if !slices.Equal(second, want) {
		t.Errorf("%v: %v after a change of others, want %v", what, second, want)
	}
	if third := call(); !slices.Equal(third, want) {
		t.Errorf("%v: then %v, want %v", what, third, want)
	}
}

func TestP2ListsAreNewMemory(t *testing.T) {
	for _, x := range fractions() {
		checkNewMemory(t, x, continued(x), -1, func() []int {
			l, _ := frac.Of(x)
			return l
		})
	}
	for n := 1; n <= api.MaxFarey; n++ {
		checkNewMemory(t, n, searchFarey(n), api.Fraction{P: -1, Q: -1}, func() []api.Fraction {
			l, _ := frac.Farey(n)
			return l
		})
	}
}

func TestP27Of(t *testing.T) {
	for _, c := range []struct {
		p, q int
		want []int
	}{
		{7, 3, []int{2, 3}},
		{14, 6, []int{2, 3}},
		{3, 7, []int{0, 2, 3}},
		{30, 13, []int{2, 3, 4}},
		{13, 30, []int{0, 2, 3, 4}},
		{0, 1, []int{0}},
		{0, 5, []int{0}},
		{0, most, []int{0}},
		{1, 1, []int{1}},
		{5, 1, []int{5}},
		{6, 3, []int{2}},
		{3, 2, []int{1, 2}},
		{2, 3, []int{0, 1, 2}},
		{1, most, []int{0, most}},
		{most, 1, []int{most}},
		{most, most, []int{1}},
		{most, most - 1, []int{1, most - 1}},
		{most - 1, most, []int{0, 1, most - 1}},
		{355, 113, []int{3, 7, 16}},
	} {
		checkOf(t, api.Fraction{P: c.p, Q: c.q}, c.want)
	}
	// The longest one is that of neighbours in Fibonacci's sequence.
	checkOf(t, api.Fraction{P: 514229, Q: 832040}, append([]int{0}, append(slices.Repeat([]int{1}, 27), 2)...))
}

func TestP27OfManyFractions(t *testing.T) {
	next := numbers()
	l := fractions()
	for range 20000 {
		l = append(l, api.Fraction{P: next(most + 1), Q: 1 + next(most)})
	}
	for p := range 200 {
		for q := 1; q <= 200; q++ {
			l = append(l, api.Fraction{P: p, Q: q})
		}
	}
	for _, x := range l {
		want := continued(x)
		checkOf(t, x, want)
		value, _ := worth(want)
		if value.Cmp(big.NewRat(int64(x.P), int64(x.Q))) != 0 {
			t.Fatalf("%v is worth %v, not %v", want, value, x)
		}
	}
}

func TestP27Errors(t *testing.T) {
	for _, x := range notFractions() {
		if l, err := frac.Of(x); err != api.ErrArg || len(l) != 0 {
			t.Errorf("Of(%v) = %v, %d, want error %d", x, l, err, api.ErrArg)
		}
	}
}

func TestP28Value(t *testing.T) {
	for _, c := range []struct {
		l    []int
		p, q int
	}{
		{[]int{2, 3}, 7, 3},
		{[]int{0, 2, 3}, 3, 7},
		{[]int{0, 2, 2}, 2, 5},
		{[]int{2, 3, 4}, 30, 13},
		{[]int{0}, 0, 1},
		{[]int{1}, 1, 1},
		{[]int{7}, 7, 1},
		{[]int{most}, most, 1},
		{[]int{0, 1}, 1, 1},
		{[]int{0, 5}, 1, 5},
		{[]int{0, most}, 1, most},
		{[]int{2, 1}, 3, 1}, // the last number may be 1
		{[]int{2, 3, 3, 1}, 30, 13},
		{[]int{0, 1, 1}, 1, 2},
		{[]int{most - 1, 1}, most, 1},
		{[]int{1, most - 1}, most, most - 1},
		{[]int{0, 1, most - 1}, most - 1, most},
		{[]int{0, most - 1, 1}, 1, most},
		{[]int{499999, 2}, 999999, 2},
		{slices.Repeat([]int{1}, 29), 832040, 514229},
		{append([]int{0}, slices.Repeat([]int{1}, 29)...), 514229, 832040},
	} {
		checkValue(t, c.l, api.Fraction{P: c.p, Q: c.q}, api.OK)
	}
}

func TestP28ValueTooLarge(t *testing.T) {
	for _, l := range [][]int{
		{most, 1},
		{1, most},
		{most, most},
		{500000, 2},
		{0, 500000, 2}, // only the denominator
		{0, most, 1},
		{0, most, most},
		{5, most, 1, 2},
		{1, 1, 1, 1, most, most},
		{most, most, most, most, most, most, most},
		slices.Repeat([]int{1}, 30),
		append([]int{0}, slices.Repeat([]int{1}, 30)...),
		slices.Repeat([]int{1}, api.MaxTerms),
		slices.Repeat([]int{1}, api.MaxTerms+1),
		slices.Repeat([]int{1}, 1000000),
		slices.Repeat([]int{most}, 1000000),
	} {
		checkValue(t, l, api.Fraction{}, api.ErrLarge)
	}
}

func TestP28ValueOfManyLists(t *testing.T) {
	check := func(l []int) {
		value, large := worth(l)
		if large {
			checkValue(t, l, api.Fraction{}, api.ErrLarge)
			return
		}
		p, q := int(value.Num().Int64()), int(value.Denom().Int64())
		checkValue(t, l, api.Fraction{P: p, Q: q}, api.OK)
	}
	for _, l := range termLists() {
		check(l)
	}
	// All pairs around the bound, by their product and by their sum.
	for a := 990; a <= 1010; a++ {
		for b := 990; b <= 1010; b++ {
			check([]int{a, b})
			check([]int{0, a, b})
			check([]int{1, 1, a, b})
		}
	}
	for a := most - 4; a <= most; a++ {
		for b := 1; b <= 4; b++ {
			check([]int{a, b})
			check([]int{b, a})
			check([]int{0, a, b})
			check([]int{0, b, a})
		}
	}
}

func TestP28ValueTurnsOfBack(t *testing.T) {
	for _, x := range fractions() {
		l, err := frac.Of(x)
		if err != api.OK {
			t.Fatalf("Of(%v): error %d", x, err)
		}
		checkValue(t, l, lowest(x), api.OK)
	}
}

func TestP28Errors(t *testing.T) {
	checkValue(t, nil, api.Fraction{}, api.ErrNone)
	checkValue(t, []int{}, api.Fraction{}, api.ErrNone)
	checkValue(t, make([]int, 0, 5), api.Fraction{}, api.ErrNone)
	checkValue(t, []int{0, 0}, api.Fraction{}, api.ErrArg)
	checkValue(t, []int{1, 0}, api.Fraction{}, api.ErrArg)
	checkValue(t, []int{0, 1, 0}, api.Fraction{}, api.ErrArg)
	for _, l := range notTermLists() {
		checkValue(t, l, api.Fraction{}, api.ErrArg)
	}
	long := slices.Repeat([]int{1}, 1000000)
	for _, place := range []int{1, 500000, len(long) - 1} {
		long[place] = 0
		checkValue(t, long, api.Fraction{}, api.ErrArg)
		long[place] = 1
	}
}

func TestP29Near(t *testing.T) {
	for _, c := range []struct{ p, q, bound, lowP, lowQ, highP, highQ int }{
		{30, 13, 5, 9, 4, 7, 3},
		{30, 13, 1, 2, 1, 3, 1},
		{30, 13, 12, 23, 10, 7, 3},
		{30, 13, 13, 30, 13, 30, 13},
		{30, 13, most, 30, 13, 30, 13},
		{6, 4, 5, 3, 2, 3, 2}, // in lowest terms, though 4 is small enough
		{6, 4, 3, 3, 2, 3, 2}, // 4 is too large, but 2 is not
		{6, 4, 2, 3, 2, 3, 2},
		{6, 4, 1, 1, 1, 2, 1},
		{0, 1, 1, 0, 1, 0, 1},
		{0, most, 1, 0, 1, 0, 1},
		{0, 7, most, 0, 1, 0, 1},
		{7, 7, 1, 1, 1, 1, 1},
		{most, 1, 1, most, 1, most, 1},
		{most, most, 3, 1, 1, 1, 1},
		{1, 3, 2, 0, 1, 1, 2},
		{2, 3, 2, 1, 2, 1, 1},
		{1, most, 1, 0, 1, 1, 1},
		{1, most, most - 1, 0, 1, 1, most - 1},
		{1, most, most, 1, most, 1, most},
		{most - 1, most, most - 1, most - 2, most - 1, 1, 1},
		{most, 3, 2, 333333, 1, 666667, 2},
		{355, 113, 100, 311, 99, 22, 7},
		{355, 113, 112, 333, 106, 22, 7},
		{514229, 832040, 832039, 317811, 514229, 196418, 317811},
	} {
		low, high := api.Fraction{P: c.lowP, Q: c.lowQ}, api.Fraction{P: c.highP, Q: c.highQ}
		checkNear(t, api.Fraction{P: c.p, Q: c.q}, c.bound, low, high)
	}
}

func TestP29NearOfSmallFractions(t *testing.T) {
	for p := range 61 {
		for q := 1; q <= 45; q++ {
			for bound := 1; bound <= 50; bound++ {
				x := api.Fraction{P: p, Q: q}
				low, high := searchNear(x, bound)
				checkNear(t, x, bound, lowest(low), lowest(high))
			}
		}
	}
}

func TestP29NearOfLargeFractions(t *testing.T) {
	for _, x := range fractions() {
		for _, bound := range bounds {
			checkNearest(t, x, bound)
		}
		// Where x itself is the result, and where it is just not.
		same := lowest(x)
		checkNearest(t, x, same.Q)
		if same.Q > 1 {
			checkNearest(t, x, same.Q-1)
		}
	}
	next := numbers()
	for range 100000 {
		x := api.Fraction{P: next(most + 1), Q: 1 + next(most)}
		checkNearest(t, x, 1+next([]int{10, 1000, most}[next(3)]))
	}
}

func TestP29NearIsTheNearestOfAll(t *testing.T) {
	next := numbers()
	for range 200 {
		x := api.Fraction{P: next(most + 1), Q: 1 + next(most)}
		bound := 1 + next(3000)
		low, high := searchNear(x, bound)
		checkNear(t, x, bound, lowest(low), lowest(high))
	}
}

func TestP29Errors(t *testing.T) {
	check := func(x api.Fraction, bound int) {
		t.Helper()
		low, high, err := frac.Near(x, bound)
		if err != api.ErrArg || low != (api.Fraction{}) || high != (api.Fraction{}) {
			t.Errorf("Near(%v, %d) = %v, %v, %d, want error %d", x, bound, low, high, err, api.ErrArg)
		}
	}
	for _, x := range notFractions() {
		for _, bound := range slices.Concat(bounds, notBounds) {
			check(x, bound)
		}
	}
	for _, x := range fractions() {
		for _, bound := range notBounds {
			check(x, bound)
		}
	}
}

func TestP30Farey(t *testing.T) {
	for n, want := range [][]api.Fraction{
		1: {{P: 0, Q: 1}, {P: 1, Q: 1}},
		2: {{P: 0, Q: 1}, {P: 1, Q: 2}, {P: 1, Q: 1}},
		3: {{P: 0, Q: 1}, {P: 1, Q: 3}, {P: 1, Q: 2}, {P: 2, Q: 3}, {P: 1, Q: 1}},
		4: {
			{P: 0, Q: 1}, {P: 1, Q: 4}, {P: 1, Q: 3}, {P: 1, Q: 2}, {P: 2, Q: 3}, {P: 3, Q: 4},
			{P: 1, Q: 1},
		},
	} {
		if n == 0 {
			continue
		}
		if l, err := frac.Farey(n); err != api.OK || !slices.Equal(l, want) {
			t.Errorf("Farey(%d) = %v, %d, want %v", n, l, err, want)
		}
	}
}

func TestP30FareyOfAllOrders(t *testing.T) {
	for n := 1; n <= api.MaxFarey; n++ {
		want := searchFarey(n)
		if l, err := frac.Farey(n); err != api.OK || !slices.Equal(l, want) {
			t.Errorf("Farey(%d) = %v, %d, want %v", n, l, err, want)
		}
	}
	if l, _ := frac.Farey(api.MaxFarey); len(l) != 279 {
		t.Errorf("Farey(%d) has %d fractions", api.MaxFarey, len(l))
	}
}

func TestP30Errors(t *testing.T) {
	for _, n := range notOrders {
		if l, err := frac.Farey(n); err != api.ErrArg || len(l) != 0 {
			t.Errorf("Farey(%d) = %v, %d, want error %d", n, l, err, api.ErrArg)
		}
	}
}
