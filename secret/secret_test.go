package secret_test

import (
	"math"
	"math/big"
	"slices"
	"testing"

	"wholemend/api"
	"wholemend/secret"
)

const most = api.MaxPoints

// fields are some that are allowed, with up to most elements and with more.
var fields = []int{2, 3, 5, 7, 11, 13, 17, 101, 499, 991, api.MaxField}

// notFields are some that are not.
var notFields = []int{
	math.MinInt, math.MinInt + 1, math.MinInt32, -997, -7, -2, -1, 0, 1, 4, 6, 9, 15, 25, 256,
	961, 996, 998, 999, 1001, 1009, 65537, 999983, api.MaxPrime, 1000003, 1000000007, math.MaxInt,
}

// hand is what Deal takes.
type hand struct {
	p, secret int
	tape      []int
	n         int
}

// wrongHand is one that is not allowed.
type wrongHand struct {
	hand
	err api.Errno
}

// wrongList is a list of points that is not allowed.
type wrongList struct {
	l   []api.Point
	err api.Errno
}

// numbers returns a function for numbers from 0 to below - 1, always the same.
func numbers() func(below int) int {
	seed := uint32(1)
	return func(below int) int {
		seed = seed*1664525 + 1013904223
		return int(seed>>8) % below
	}
}

// outside returns numbers that are not in the range 0 to high.
func outside(high int) []int {
	return []int{math.MinInt, math.MinInt + 1, -high, -1, high + 1, high + 2, 2*high + 2, api.MaxInt, math.MaxInt}
}

// mostShares is how many may be dealt.
func mostShares(p int) int {
	return min(p-1, most)
}

// pointsOf returns points, each with its X and then its Y.
func pointsOf(pairs ...int) []api.Point {
	var l []api.Point
	for i := 0; i < len(pairs); i += 2 {
		l = append(l, api.Point{X: pairs[i], Y: pairs[i+1]})
	}
	return l
}

// row returns count points with X from first on and all with this Y.
func row(first, count, y int) []api.Point {
	var l []api.Point
	for i := range count {
		l = append(l, api.Point{X: first + i, Y: y})
	}
	return l
}

// with returns the list with one element in another's place.
func with[T any](l []T, place int, element T) []T {
	l = slices.Clone(l)
	l[place] = element
	return l
}

// someTape returns a tape with count elements.
func someTape(p, count int, next func(below int) int) []int {
	tape := make([]int, count)
	for i := range tape {
		tape[i] = next(p)
	}
	return tape
}

// someShares returns count points that are allowed.
func someShares(p, count int, next func(below int) int) []api.Point {
	var l []api.Point
	for len(l) < count {
		x := 1 + next(p-1)
		if !slices.ContainsFunc(l, func(point api.Point) bool { return point.X == x }) {
			l = append(l, api.Point{X: x, Y: next(p)})
		}
	}
	return l
}

// tapes are some that are allowed, with zeros in every place.
func tapes(p int) [][]int {
	next := numbers()
	l := [][]int{nil, {}, {0}, {1}, {p - 1}, {0, 0}, {0, 1}, {1, 0}, {p - 1, 0, 0}, {0, p - 1, 0}}
	for count := range most {
		l = append(l, make([]int, count), slices.Repeat([]int{p - 1}, count), someTape(p, count, next))
		tape := someTape(p, count, next)
		clear(tape[count/2:])
		l = append(l, tape)
	}
	return l
}

// hands are some that are allowed.
func hands(p int) []hand {
	var l []hand
	for _, tape := range tapes(p) {
		for _, secret := range []int{0, 1, p / 2, p - 1} {
			for _, n := range []int{0, 1, mostShares(p) / 2, mostShares(p)} {
				l = append(l, hand{p, secret, tape, n})
			}
		}
	}
	return l
}

// wrongHands are some that are not allowed, with what is wrong first.
func wrongHands(p int) []wrongHand {
	var l []wrongHand
	add := func(secret int, tape []int, n int, err api.Errno) {
		l = append(l, wrongHand{hand{p, secret, tape, n}, err})
	}
	for _, count := range []int{most, most + 1, 2 * most, 1000} {
		long := slices.Repeat([]int{1}, count)
		add(0, long, 1, api.ErrLarge)
		add(0, make([]int, count), 0, api.ErrLarge)
		// The length of the tape goes before whatever else is wrong.
		for i, bad := range outside(p - 1) {
			add(bad, long, 1, api.ErrLarge)
			add(0, slices.Repeat([]int{bad}, count), 1, api.ErrLarge)
			add(0, long, outside(mostShares(p))[i], api.ErrLarge)
			add(bad, slices.Repeat([]int{bad}, count), outside(mostShares(p))[i], api.ErrLarge)
		}
	}
	full := slices.Repeat([]int{p - 1}, most-1)
	for _, n := range outside(mostShares(p)) {
		for _, tape := range [][]int{nil, {0}, {p - 1, 0}, full} {
			add(p-1, tape, n, api.ErrArg)
		}
	}
	for _, bad := range outside(p - 1) {
		for _, n := range []int{0, 1, mostShares(p)} {
			add(bad, nil, n, api.ErrArg)
			add(bad, full, n, api.ErrArg)
			add(bad, []int{bad}, n, api.ErrArg)
			for place := range full {
				add(0, with(full, place, bad), n, api.ErrArg)
				add(0, with(make([]int, place+1), place, bad), n, api.ErrArg)
			}
		}
	}
	return l
}

// pointLists are some that Join allows.
func pointLists(p int) [][]api.Point {
	next := numbers()
	all := mostShares(p)
	l := [][]api.Point{
		pointsOf(1, 0), pointsOf(1, 1), pointsOf(1, p-1), pointsOf(p-1, 0), pointsOf(p-1, p-1),
		row(1, all, 0), row(1, all, 1), row(p-all, all, p-1),
	}
	for count := 1; count <= all; count++ {
		l = append(l, someShares(p, count, next), someShares(p, count, next))
	}
	return l
}

// wrongLists are some that Join does not allow, with what is wrong first.
func wrongLists(p int) []wrongList {
	all := mostShares(p)
	l := []wrongList{
		{nil, api.ErrFew},
		{[]api.Point{}, api.ErrFew},
		{row(1, most+1, 0), api.ErrLarge},
		{row(0, most+1, 0), api.ErrLarge},
		{row(-20, most+1, -1), api.ErrLarge},
		{slices.Repeat(pointsOf(0, p), most+1), api.ErrLarge},
		{slices.Repeat(pointsOf(0, 0), 1000), api.ErrLarge},
		{pointsOf(1, 0, 1, 0), api.ErrThere},
		{pointsOf(1, 0, 1, 1), api.ErrThere},
		{pointsOf(p-1, 1, p-1, 0), api.ErrThere},
		// A point at 0 is an error only if Check has none.
		{pointsOf(0, 0, 0, 0), api.ErrThere},
		{pointsOf(0, 0, 0, 1), api.ErrThere},
		{pointsOf(0, 0, 1, 1, 1, 1), api.ErrThere},
		{pointsOf(1, 1, 1, 1, 0, 0), api.ErrThere},
		{pointsOf(1, 1, 0, 0, 1, 1), api.ErrThere},
		{pointsOf(0, 0), api.ErrArg},
		{pointsOf(0, 1), api.ErrArg},
		{pointsOf(0, p-1), api.ErrArg},
		{pointsOf(0, 0, 1, 0), api.ErrArg},
		{pointsOf(1, 0, 0, 0), api.ErrArg},
		{row(0, all, 1), api.ErrArg},
		{with(row(1, all, 1), all-1, api.Point{X: 0, Y: 1}), api.ErrArg},
		{with(row(1, all, 0), all/2, api.Point{X: 0, Y: 0}), api.ErrArg},
	}
	for _, bad := range outside(p - 1) {
		for _, point := range []api.Point{{X: bad, Y: 0}, {X: 1, Y: bad}, {X: bad, Y: bad}, {X: 0, Y: bad}} {
			x, y := point.X, point.Y
			l = append(l, wrongList{pointsOf(x, y), api.ErrArg},
				wrongList{pointsOf(0, 0, x, y), api.ErrArg},
				wrongList{pointsOf(x, y, 0, 0), api.ErrArg},
				wrongList{pointsOf(x, y, 1, 1, 1, 1), api.ErrArg},
				wrongList{pointsOf(1, 1, 1, 1, x, y), api.ErrThere})
			for _, place := range []int{0, all / 2, all - 1} {
				l = append(l, wrongList{with(row(1, all, 0), place, point), api.ErrArg})
			}
		}
	}
	return l
}

// anyHands are all hands above, right and wrong, and some without a field.
func anyHands() []hand {
	var l []hand
	for _, p := range fields {
		l = append(l, hands(p)...)
		for _, w := range wrongHands(p) {
			l = append(l, w.hand)
		}
	}
	for _, p := range notFields {
		for _, h := range slices.Concat(hands(2), hands(13)) {
			l = append(l, hand{p, h.secret, h.tape, h.n})
		}
	}
	return l
}

// eachList visits all lists above, right and wrong, with a field and without.
func eachList(visit func(p int, l []api.Point)) {
	for _, p := range slices.Concat(fields, notFields) {
		small := p
		if slices.Contains(notFields, p) {
			small = 13
		}
		for _, l := range pointLists(small) {
			visit(p, l)
		}
		for _, w := range wrongLists(small) {
			visit(p, w.l)
		}
	}
}

// eachTape visits all tapes with count elements.
func eachTape(p, count int, visit func(tape []int)) {
	tape := make([]int, count)
	var extend func(place int)
	extend = func(place int) {
		if place == count {
			visit(slices.Clone(tape))
			return
		}
		for c := range p {
			tape[place] = c
			extend(place + 1)
		}
	}
	extend(0)
}

// eachPart visits all parts of the list, in the list's order.
func eachPart(l []api.Point, visit func(part []api.Point)) {
	for bits := range 1 << len(l) {
		var part []api.Point
		for i, point := range l {
			if bits>>i&1 == 1 {
				part = append(part, point)
			}
		}
		visit(part)
	}
}

// shuffle returns the points in another order.
func shuffle(l []api.Point, next func(below int) int) []api.Point {
	l = slices.Clone(l)
	for i := range l {
		j := i + next(len(l)-i)
		l[i], l[j] = l[j], l[i]
	}
	return l
}

// value returns secret + tape[0] x + tape[1] x^2 + .. modulo p.
func value(p, secret int, tape []int, x int) int {
	sum, power := big.NewInt(int64(secret)), big.NewInt(int64(x))
	for _, c := range tape {
		sum.Add(sum, new(big.Int).Mul(big.NewInt(int64(c)), power))
		power.Mul(power, big.NewInt(int64(x)))
	}
	return int(sum.Mod(sum, big.NewInt(int64(p))).Int64())
}

// lagrange returns the value at 0 by Lagrange's formula.
func lagrange(p int, l []api.Point) int {
	field, sum := big.NewInt(int64(p)), new(big.Int)
	for i, a := range l {
		term := big.NewInt(int64(a.Y))
		for j, b := range l {
			if j != i {
				under := new(big.Int).ModInverse(big.NewInt(int64(b.X-a.X)), field)
				term.Mul(term, under.Mul(under, big.NewInt(int64(b.X))))
			}
		}
		sum.Add(sum, term)
	}
	return int(sum.Mod(sum, field).Int64())
}

// deal returns the shares of a hand that is allowed.
func deal(t *testing.T, h hand) []api.Point {
	t.Helper()
	l, err := secret.Deal(h.p, h.secret, h.tape, h.n)
	if err != api.OK || len(l) != h.n {
		t.Fatalf("Deal(%v) = %v, %d", h, l, err)
	}
	return l
}

// checkDeal checks every share by itself.
func checkDeal(t *testing.T, h hand) {
	t.Helper()
	for i, point := range deal(t, h) {
		want := api.Point{X: i + 1, Y: value(h.p, h.secret, h.tape, i+1)}
		if point != want {
			t.Errorf("Deal(%v) has %v at %d, want %v", h, point, i, want)
		}
	}
}

func checkJoin(t *testing.T, p int, l []api.Point, want int) {
	t.Helper()
	if s, err := secret.Join(p, l); err != api.OK || s != want {
		t.Errorf("Join(%d, %v) = %d, %d, want %d", p, l, s, err, want)
	}
}

func TestP1NoArgumentPanics(t *testing.T) {
	guard := func(call func(), arguments ...any) {
		defer func() {
			if r := recover(); r != nil {
				t.Errorf("%v panics: %v", arguments, r)
			}
		}()
		call()
	}
	for _, h := range anyHands() {
		guard(func() { secret.Deal(h.p, h.secret, h.tape, h.n) }, h)
	}
	eachList(func(p int, l []api.Point) {
		guard(func() { secret.Join(p, l) }, p, l)
	})
}

// results of calls.
type results struct {
	lists [][]api.Point
	nums  []int
	errs  []api.Errno
}

// callAll calls both functions with all arguments above.
func callAll() results {
	var r results
	add := func(l []api.Point, num int, err api.Errno) {
		r.lists = append(r.lists, l)
		r.nums = append(r.nums, num)
		r.errs = append(r.errs, err)
	}
	for _, h := range anyHands() {
		l, err := secret.Deal(h.p, h.secret, h.tape, h.n)
		add(l, 0, err)
	}
	eachList(func(p int, l []api.Point) {
		s, err := secret.Join(p, l)
		add(nil, s, err)
	})
	return r
}

func TestP2ResultsDependOnlyOnArguments(t *testing.T) {
	first, again := callAll(), callAll()
	for i, err := range again.errs {
		if err != first.errs[i] || again.nums[i] != first.nums[i] || !slices.Equal(again.lists[i], first.lists[i]) {
			t.Errorf("call %d: first %v, %d, %d, then %v, %d, %d", i, first.lists[i],
				first.nums[i], first.errs[i], again.lists[i], again.nums[i], err)
		}
	}
}

func TestP2OtherResultsAreZeroWithAnError(t *testing.T) {
	r := callAll()
	for i, err := range r.errs {
		if err != api.OK && (len(r.lists[i]) != 0 || r.nums[i] != 0) {
			t.Errorf("call %d: %v, %d with error %d", i, r.lists[i], r.nums[i], err)
		}
	}
}

func TestP2ArgumentsStayAsTheyAre(t *testing.T) {
	// What lies behind the length stays, too.
	for _, h := range anyHands() {
		spare := append(slices.Clone(h.tape), -5, -6, -7)
		want := slices.Clone(spare)
		secret.Deal(h.p, h.secret, spare[:len(h.tape)], h.n)
		if !slices.Equal(spare, want) {
			t.Errorf("Deal: %v became %v", want, spare)
		}
	}
	eachList(func(p int, l []api.Point) {
		spare := append(slices.Clone(l), pointsOf(-5, -6, -7, -8)...)
		want := slices.Clone(spare)
		secret.Join(p, spare[:len(l)])
		if !slices.Equal(spare, want) {
			t.Errorf("Join: %v became %v", want, spare)
		}
	})
}

func TestP2ResultsAreNewMemory(t *testing.T) {
	for _, p := range fields {
		for _, h := range hands(p) {
			tape := slices.Clone(h.tape)
			first, _ := secret.Deal(p, h.secret, tape, h.n)
			second, _ := secret.Deal(p, h.secret, tape, h.n)
			want := slices.Clone(second)
			// What lies behind the length is not shared either.
			first = first[:cap(first)]
			for i := range first {
				first[i] = api.Point{X: -9, Y: -9}
			}
			if !slices.Equal(tape, h.tape) || !slices.Equal(second, want) {
				t.Fatalf("Deal(%v) shares its result", h)
			}
			for i := range tape {
				tape[i] = -9
			}
			third, _ := secret.Deal(p, h.secret, h.tape, h.n)
			if !slices.Equal(second, want) || !slices.Equal(third, want) {
				t.Fatalf("Deal(%v) keeps memory", h)
			}
		}
	}
}

func TestP41Deal(t *testing.T) {
	for _, c := range []struct {
		hand
		want []api.Point
	}{
		{hand{7, 3, []int{2}, 2}, pointsOf(1, 5, 2, 0)},
		{hand{7, 4, []int{2}, 3}, pointsOf(1, 6, 2, 1, 3, 3)},
		{hand{7, 4, []int{2, 0}, 3}, pointsOf(1, 6, 2, 1, 3, 3)},
		{hand{7, 4, []int{0, 2}, 3}, pointsOf(1, 6, 2, 5, 3, 1)},
		{hand{7, 3, []int{2}, 0}, nil},
		{hand{7, 3, nil, 3}, pointsOf(1, 3, 2, 3, 3, 3)},
		{hand{7, 3, []int{0, 0, 0}, 2}, pointsOf(1, 3, 2, 3)},
		{hand{7, 0, nil, 2}, pointsOf(1, 0, 2, 0)},
		{hand{7, 0, []int{0, 0}, 2}, pointsOf(1, 0, 2, 0)},
		{hand{7, 0, []int{1}, 6}, pointsOf(1, 1, 2, 2, 3, 3, 4, 4, 5, 5, 6, 6)},
		{hand{7, 1, []int{0, 0, 0, 0, 0, 1}, 3}, pointsOf(1, 2, 2, 2, 3, 2)},
		{hand{2, 1, []int{1}, 1}, pointsOf(1, 0)},
		{hand{2, 1, nil, 1}, pointsOf(1, 1)},
		{hand{2, 0, nil, 0}, nil},
		{hand{3, 2, []int{2}, 2}, pointsOf(1, 1, 2, 0)},
		{hand{13, 5, make([]int, most-1), 12}, row(1, 12, 5)},
		{hand{997, 996, []int{996}, 3}, pointsOf(1, 995, 2, 994, 3, 993)},
		{hand{997, 0, []int{0, 0, 0, 0, 0, 0, 0, 0, 0, 0, 1}, 2}, pointsOf(1, 1, 2, 54)},
	} {
		l, err := secret.Deal(c.p, c.secret, c.tape, c.n)
		if err != api.OK || !slices.Equal(l, c.want) {
			t.Errorf("Deal(%v) = %v, %d, want %v", c.hand, l, err, c.want)
		}
	}
}

func TestP41DealWithAllSmallTapes(t *testing.T) {
	for _, c := range []struct{ p, count int }{{2, 6}, {3, 4}, {5, 3}, {7, 2}} {
		for count := range c.count + 1 {
			eachTape(c.p, count, func(tape []int) {
				for s := range c.p {
					for n := range c.p {
						checkDeal(t, hand{c.p, s, tape, n})
					}
				}
			})
		}
	}
}

func TestP41DealWithManyTapes(t *testing.T) {
	next := numbers()
	for _, p := range fields {
		for _, h := range hands(p) {
			checkDeal(t, h)
		}
		for range 300 {
			checkDeal(t, hand{p, next(p), someTape(p, next(most), next), next(mostShares(p) + 1)})
		}
	}
}

func TestP41NumbersOfShares(t *testing.T) {
	for _, p := range fields {
		for n := -3; n <= most+3; n++ {
			want := api.OK
			if n < 0 || n > 12 || n > p-1 {
				want = api.ErrArg
			}
			if l, err := secret.Deal(p, 1, []int{1}, n); err != want || want == api.OK && len(l) != n {
				t.Errorf("Deal(%d, 1, [1], %d) = %v, %d, want error %d", p, n, l, err, want)
			}
		}
	}
}

func TestP41Errors(t *testing.T) {
	check := func(h hand, want api.Errno) {
		if l, err := secret.Deal(h.p, h.secret, h.tape, h.n); err != want || len(l) != 0 {
			t.Errorf("Deal(%v) = %v, %d, want error %d", h, l, err, want)
		}
	}
	for _, p := range fields {
		for _, w := range wrongHands(p) {
			check(w.hand, w.err)
		}
	}
	for _, p := range notFields {
		for _, h := range hands(13) {
			check(hand{p, h.secret, h.tape, h.n}, api.ErrArg)
		}
		for _, w := range wrongHands(13) {
			check(hand{p, w.secret, w.tape, w.n}, api.ErrArg)
		}
	}
	for p := -1100; p <= 2000; p++ {
		want, wantLong := api.OK, api.ErrLarge
		if p > api.MaxField || !big.NewInt(int64(max(p, 0))).ProbablyPrime(10) {
			want, wantLong = api.ErrArg, api.ErrArg
		}
		if _, err := secret.Deal(p, 1, []int{1, 0}, 1); err != want {
			t.Errorf("Deal(%d, 1, [1 0], 1) has error %d, want %d", p, err, want)
		}
		if _, err := secret.Deal(p, 1, make([]int, most), 1); err != wantLong {
			t.Errorf("Deal(%d, 1, a long tape, 1) has error %d, want %d", p, err, wantLong)
		}
	}
}

// TestP41FewSharesTellNothing checks that up to as many shares as the tape has
// elements leave every secret as likely as any other.
func TestP41FewSharesTellNothing(t *testing.T) {
	for _, c := range []struct{ p, count int }{{3, 1}, {3, 2}, {5, 1}, {5, 2}, {5, 3}, {7, 2}} {
		seen := map[int]map[string]int{}
		for s := range c.p {
			seen[s] = map[string]int{}
			eachTape(c.p, c.count, func(tape []int) {
				eachPart(deal(t, hand{c.p, s, tape, c.p - 1}), func(part []api.Point) {
					if len(part) <= c.count {
						seen[s][text(part)]++
					}
				})
			})
		}
		for s := range c.p {
			for part, times := range seen[0] {
				if seen[s][part] != times {
					t.Errorf("modulo %d, %q of secret %d comes %d times, not %d", c.p, part, s, seen[s][part], times)
				}
			}
		}
	}
}

// text returns a map's key for small points.
func text(l []api.Point) string {
	var b []byte
	for _, point := range l {
		b = append(b, '0'+byte(point.X), '0'+byte(point.Y))
	}
	return string(b)
}

func TestP42Join(t *testing.T) {
	for _, c := range []struct {
		p    int
		l    []api.Point
		want int
	}{
		{7, pointsOf(1, 5, 2, 0), 3},
		{7, pointsOf(2, 0, 1, 5), 3},
		{7, pointsOf(2, 1, 3, 3), 4},
		{7, pointsOf(1, 6, 2, 1, 3, 3), 4},
		{7, pointsOf(1, 6, 2, 5, 3, 1), 4},
		{7, pointsOf(3, 5), 5},
		{7, pointsOf(6, 0), 0},
		{7, pointsOf(1, 1, 2, 2, 3, 3, 4, 4, 5, 5, 6, 6), 0},
		{2, pointsOf(1, 0), 0},
		{2, pointsOf(1, 1), 1},
		{3, pointsOf(1, 1, 2, 0), 2},
		{13, row(1, 12, 5), 5},
		{17, row(5, 12, 16), 16},
		{997, pointsOf(996, 0, 1, 995), 996},
	} {
		checkJoin(t, c.p, c.l, c.want)
	}
}

// TestP42JoinFindsTheSecret joins all parts that have enough of the shares, each
// in some order.
func TestP42JoinFindsTheSecret(t *testing.T) {
	next := numbers()
	for _, p := range fields {
		for count := range mostShares(p) {
			s := next(p)
			shares := deal(t, hand{p, s, someTape(p, count, next), mostShares(p)})
			eachPart(shares, func(part []api.Point) {
				if len(part) > count {
					checkJoin(t, p, shuffle(part, next), s)
				}
			})
		}
	}
}

func TestP42JoinWithAllSmallTapes(t *testing.T) {
	for _, c := range []struct{ p, count int }{{2, 0}, {3, 1}, {5, 3}, {7, 2}} {
		for s := range c.p {
			eachTape(c.p, c.count, func(tape []int) {
				eachPart(deal(t, hand{c.p, s, tape, c.p - 1}), func(part []api.Point) {
					if len(part) > c.count {
						checkJoin(t, c.p, part, s)
					}
				})
			})
		}
	}
}

// TestP42JoinOfAnyPoints joins points that were not dealt, or too few.
func TestP42JoinOfAnyPoints(t *testing.T) {
	next := numbers()
	for _, p := range fields {
		for _, l := range pointLists(p) {
			checkJoin(t, p, l, lagrange(p, l))
		}
		for range 300 {
			l := someShares(p, 1+next(mostShares(p)), next)
			checkJoin(t, p, l, lagrange(p, l))
		}
	}
}

func TestP42Errors(t *testing.T) {
	check := func(p int, l []api.Point, want api.Errno) {
		if s, err := secret.Join(p, l); err != want || s != 0 {
			t.Errorf("Join(%d, %v) = %d, %d, want error %d", p, l, s, err, want)
		}
	}
	for _, p := range fields {
		for _, w := range wrongLists(p) {
			check(p, w.l, w.err)
		}
	}
	for _, p := range notFields {
		for _, l := range pointLists(13) {
			check(p, l, api.ErrArg)
		}
		for _, w := range wrongLists(13) {
			check(p, w.l, api.ErrArg)
		}
	}
}
