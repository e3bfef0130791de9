package points_test

import (
	"math"
	"math/big"
	"slices"
	"testing"

	"wholemend/api"
	"wholemend/points"
)

const most = api.MaxPoints

// fields are some that are allowed, with fewer than most elements and with more.
var fields = []int{2, 3, 5, 7, 11, 13, 17, 101, 499, 991, api.MaxField}

// notFields are some that are not.
var notFields = []int{
	math.MinInt, math.MinInt + 1, math.MinInt32, -997, -7, -2, -1, 0, 1, 4, 6, 9, 15, 25, 256,
	961, 996, 998, 999, 1001, 1009, 65537, 999983, api.MaxPrime, 1000003, 1000000007, math.MaxInt,
}

// arguments are some for x.
var arguments = []int{
	math.MinInt, math.MinInt + 1, math.MinInt32, -api.MaxInt, -998, -997, -996, -8, -7, -2, -1, 0, 1, 2, 3,
	4, 5, 6, 7, 8, 12, 13, 14, 996, 997, 998, 65536, api.MaxInt, 1 << 40, math.MaxInt - 1, math.MaxInt,
}

// numbers returns a function for numbers from 0 to below - 1, always the same.
func numbers() func(below int) int {
	seed := uint32(1)
	return func(below int) int {
		seed = seed*1664525 + 1013904223
		return int(seed>>8) % below
	}
}

// pointsOf returns points, each with its X and then its Y.
func pointsOf(pairs ...int) []api.Point {
	var l []api.Point
	for i := 0; i < len(pairs); i += 2 {
		l = append(l, api.Point{X: pairs[i], Y: pairs[i+1]})
	}
	return l
}

// row returns count points with X from first on and all with this Y.
func row(first, count, y int) []api.Point {
	var l []api.Point
	for i := range count {
		l = append(l, api.Point{X: first + i, Y: y})
	}
	return l
}

// with returns the list with one point in another's place.
func with(l []api.Point, place, x, y int) []api.Point {
	l = slices.Clone(l)
	l[place] = api.Point{X: x, Y: y}
	return l
}

// someX returns count numbers below p that are all different.
func someX(p, count int, next func(below int) int) []int {
	var l []int
	for len(l) < count {
		if x := next(p); !slices.Contains(l, x) {
			l = append(l, x)
		}
	}
	return l
}

// somePoints returns count points that are allowed.
func somePoints(p, count int, next func(below int) int) []api.Point {
	var l []api.Point
	for _, x := range someX(p, count, next) {
		l = append(l, api.Point{X: x, Y: next(p)})
	}
	return l
}

// pointLists are some that are allowed.
func pointLists(p int) [][]api.Point {
	next := numbers()
	all := min(p, most)
	l := [][]api.Point{
		nil, {}, pointsOf(0, 0), pointsOf(0, 1), pointsOf(p-1, 0), pointsOf(p-1, p-1), pointsOf(0, 1, 1, 0),
		pointsOf(1, 0, 0, 1), pointsOf(p-1, p-1, 0, 0), row(0, all, 0), row(p-all, all, p-1), row(0, all, 1),
	}
	for count := range all + 1 {
		l = append(l, somePoints(p, count, next))
	}
	return l
}

// wrong is a list that is not allowed.
type wrong struct {
	l   []api.Point
	err api.Errno
}

// wrongs are some lists that are not allowed, with what is wrong first.
func wrongs(p int) []wrong {
	all := min(p, most)
	l := []wrong{
		{row(0, most+1, 0), api.ErrLarge},
		{row(p, most+1, 0), api.ErrLarge},
		{row(-20, most+1, -1), api.ErrLarge},
		{slices.Repeat(pointsOf(0, 0), most+1), api.ErrLarge},
		{slices.Repeat(pointsOf(0, p), most+1), api.ErrLarge},
		{slices.Repeat(pointsOf(1, 1), 1000), api.ErrLarge},
		{pointsOf(0, 0, 0, 0), api.ErrThere},
		{pointsOf(0, 0, 0, 1), api.ErrThere},
		{pointsOf(p-1, 1, p-1, 0), api.ErrThere},
		{pointsOf(0, 0, 1, 1, 0, 0), api.ErrThere},
		{pointsOf(0, 0, 1, 1, 1, 0), api.ErrThere},
		{slices.Repeat(pointsOf(1, 1), most), api.ErrThere},
		{with(row(0, all, 0), all-1, 0, 1), api.ErrThere},
		{with(row(0, all, 0), 0, all-1, 1), api.ErrThere},
		{with(row(0, all, 1), all-1, all-2, 1), api.ErrThere},
	}
	for _, bad := range []int{math.MinInt, math.MinInt + 1, -p, -1, p, p + 1, 2 * p, api.MaxField, math.MaxInt} {
		for _, point := range []api.Point{{X: bad, Y: 0}, {X: 0, Y: bad}, {X: bad, Y: bad}, {X: p - 1, Y: bad}} {
			x, y := point.X, point.Y
			l = append(l, wrong{pointsOf(x, y), api.ErrArg},
				// A bad point is found before its X is found twice.
				wrong{pointsOf(0, 1, x, y), api.ErrArg},
				wrong{pointsOf(p-1, 1, x, y), api.ErrArg},
				wrong{pointsOf(x, y, x, y), api.ErrArg},
				// The first point with an error determines it.
				wrong{pointsOf(x, y, 1, 1, 1, 1), api.ErrArg},
				wrong{pointsOf(1, 1, x, y, 1, 1), api.ErrArg},
				wrong{pointsOf(1, 1, 1, 1, x, y), api.ErrThere},
				wrong{pointsOf(1, 1, 1, 0, x, y), api.ErrThere})
			for _, place := range []int{0, all / 2, all - 1} {
				l = append(l, wrong{with(row(0, all, 0), place, x, y), api.ErrArg})
			}
		}
	}
	return l
}

// anything is all lists above, right and wrong.
func anything(p int) [][]api.Point {
	l := pointLists(p)
	for _, w := range wrongs(p) {
		l = append(l, w.l)
	}
	return l
}

// eachList visits all lists with up to count points, with X and Y from low to
// high.
func eachList(low, high, count int, visit func(l []api.Point)) {
	var extend func(l []api.Point)
	extend = func(l []api.Point) {
		visit(slices.Clone(l))
		if len(l) == count {
			return
		}
		for x := low; x <= high; x++ {
			for y := low; y <= high; y++ {
				extend(append(slices.Clone(l), api.Point{X: x, Y: y}))
			}
		}
	}
	extend(nil)
}

// eachAllowed visits all lists with up to count points that are allowed, with
// the points in every order.
func eachAllowed(p, count int, visit func(l []api.Point)) {
	var extend func(l []api.Point)
	extend = func(l []api.Point) {
		visit(slices.Clone(l))
		if len(l) == count {
			return
		}
		for x := range p {
			if slices.ContainsFunc(l, func(point api.Point) bool { return point.X == x }) {
				continue
			}
			for y := range p {
				extend(append(slices.Clone(l), api.Point{X: x, Y: y}))
			}
		}
	}
	extend(nil)
}

// value returns the value of f at x, which is as large as it is.
func value(p int, f []int, x int) int {
	sum, power := new(big.Int), big.NewInt(1)
	for _, c := range f {
		sum.Add(sum, new(big.Int).Mul(big.NewInt(int64(c)), power))
		power.Mul(power, big.NewInt(int64(x)))
	}
	return int(sum.Mod(sum, big.NewInt(int64(p))).Int64())
}

// lagrange returns the value at x by Lagrange's formula: no polynomial is made.
func lagrange(p int, l []api.Point, x int) int {
	field, sum := big.NewInt(int64(p)), new(big.Int)
	for i, a := range l {
		term := big.NewInt(int64(a.Y))
		for j, b := range l {
			if j != i {
				over := new(big.Int).Sub(big.NewInt(int64(x)), big.NewInt(int64(b.X)))
				under := new(big.Int).ModInverse(big.NewInt(int64(a.X-b.X)), field)
				term.Mul(term, over.Mul(over, under))
			}
		}
		sum.Add(sum, term)
	}
	return int(sum.Mod(sum, field).Int64())
}

// isPolynomial tells whether f is one.
func isPolynomial(p int, f []int) bool {
	for _, c := range f {
		if c < 0 || c >= p {
			return false
		}
	}
	return len(f) == 0 || f[len(f)-1] != 0
}

// checkThrough checks the properties that together leave one right result.
func checkThrough(t *testing.T, p int, l []api.Point) {
	t.Helper()
	f, err := points.Through(p, l)
	if err != api.OK || !isPolynomial(p, f) || len(f) > len(l) {
		t.Errorf("Through(%d, %v) = %v, %d", p, l, f, err)
		return
	}
	for _, point := range l {
		if y := value(p, f, point.X); y != point.Y {
			t.Errorf("Through(%d, %v) = %v, with %d at %d", p, l, f, y, point.X)
		}
	}
}

func checkAt(t *testing.T, p int, l []api.Point, x, want int) {
	t.Helper()
	if y, err := points.At(p, l, x); err != api.OK || y != want {
		t.Errorf("At(%d, %v, %d) = %d, %d, want %d", p, l, x, y, err, want)
	}
}

// results of all functions.
type results struct {
	lists [][]int
	nums  []int
	errs  []api.Errno
}

// call calls every function.
func (r *results) call(p int, l []api.Point, x int) {
	f, err := points.Through(p, l)
	y, errAt := points.At(p, l, x)
	r.lists = append(r.lists, f, nil, nil)
	r.nums = append(r.nums, 0, y, 0)
	r.errs = append(r.errs, err, errAt, points.Check(p, l))
}

// eachCall visits arguments that are allowed, and others.
func eachCall(visit func(p int, l []api.Point, x int)) {
	for _, p := range fields {
		for i, l := range anything(p) {
			for j := range 5 {
				visit(p, l, arguments[(i+7*j)%len(arguments)])
			}
		}
	}
	for i, p := range notFields {
		for j, l := range anything(3) {
			visit(p, l, arguments[(i+j)%len(arguments)])
		}
	}
}

func TestP1NoArgumentPanics(t *testing.T) {
	eachCall(func(p int, l []api.Point, x int) {
		defer func() {
			if r := recover(); r != nil {
				t.Errorf("%d, %v, %d panics: %v", p, l, x, r)
			}
		}()
		new(results).call(p, l, x)
	})
}

func TestP2ResultsDependOnlyOnArguments(t *testing.T) {
	var first, again results
	eachCall(first.call)
	eachCall(again.call)
	for i, err := range again.errs {
		if err != first.errs[i] || again.nums[i] != first.nums[i] || !slices.Equal(again.lists[i], first.lists[i]) {
			t.Errorf("call %d: first %v, %d, %d, then %v, %d, %d", i, first.lists[i],
				first.nums[i], first.errs[i], again.lists[i], again.nums[i], err)
		}
	}
}

func TestP2OtherResultsAreZeroWithAnError(t *testing.T) {
	var r results
	eachCall(r.call)
	for i, err := range r.errs {
		if err != api.OK && (len(r.lists[i]) != 0 || r.nums[i] != 0) {
			t.Errorf("call %d: %v, %d with error %d", i, r.lists[i], r.nums[i], err)
		}
	}
}

func TestP2ArgumentsStayAsTheyAre(t *testing.T) {
	eachCall(func(p int, l []api.Point, x int) {
		// What lies behind the length stays, too.
		spare := append(slices.Clone(l), pointsOf(-5, -6, -7, -8)...)
		want := slices.Clone(spare)
		new(results).call(p, spare[:len(l)], x)
		if !slices.Equal(spare, want) {
			t.Errorf("%v became %v", want, spare)
		}
	})
}

func TestP2ResultsAreNewMemory(t *testing.T) {
	for _, p := range fields {
		for _, l := range pointLists(p) {
			argument := slices.Clone(l)
			first, _ := points.Through(p, argument)
			second, _ := points.Through(p, argument)
			want := slices.Clone(second)
			// What lies behind the length is not shared either.
			first = first[:cap(first)]
			for i := range first {
				first[i] = -9
			}
			if !slices.Equal(argument, l) || !slices.Equal(second, want) {
				t.Fatalf("Through(%d, %v) shares its result", p, l)
			}
			for i := range argument {
				argument[i] = api.Point{X: -9, Y: -9}
			}
			third, _ := points.Through(p, l)
			if !slices.Equal(second, want) || !slices.Equal(third, want) {
				t.Fatalf("Through(%d, %v) keeps memory", p, l)
			}
		}
	}
}

func TestP38Check(t *testing.T) {
	for _, p := range fields {
		for _, l := range pointLists(p) {
			if err := points.Check(p, l); err != api.OK {
				t.Errorf("Check(%d, %v) = %d", p, l, err)
			}
		}
		for _, w := range wrongs(p) {
			if err := points.Check(p, w.l); err != w.err {
				t.Errorf("Check(%d, %v) = %d, want %d", p, w.l, err, w.err)
			}
		}
	}
}

func TestP38CheckOfSmallLists(t *testing.T) {
	for _, c := range []struct {
		p    int
		l    []api.Point
		want api.Errno
	}{
		{7, pointsOf(0, 1, 1, 3), api.OK},
		{7, pointsOf(6, 6, 0, 0), api.OK},
		{7, pointsOf(2, 5, 5, 2), api.OK},
		{7, pointsOf(2, 5, 3, 5), api.OK},
		{7, pointsOf(2, 5, 2, 5), api.ErrThere},
		{7, pointsOf(2, 5, 2, 4), api.ErrThere},
		{7, pointsOf(2, 5, 3, 3, 2, 4), api.ErrThere},
		{7, pointsOf(2, 5, 2, 7), api.ErrArg},
		{7, pointsOf(2, 5, 2, 5, 7, 0), api.ErrThere},
		{7, pointsOf(7, 0), api.ErrArg},
		{7, pointsOf(0, 7), api.ErrArg},
		{7, pointsOf(-1, 0), api.ErrArg},
		{7, pointsOf(0, -1), api.ErrArg},
		{13, row(0, 12, 5), api.OK},
		{13, row(0, 13, 5), api.ErrLarge},
		{2, row(0, 2, 1), api.OK},
		{2, row(0, 3, 1), api.ErrArg},
		{8, nil, api.ErrArg},
		{1009, nil, api.ErrArg},
		{997, nil, api.OK},
	} {
		if err := points.Check(c.p, c.l); err != c.want {
			t.Errorf("Check(%d, %v) = %d, want %d", c.p, c.l, err, c.want)
		}
	}
}

// search returns the error of the first point that has one.
func search(p int, l []api.Point) api.Errno {
	seen := map[int]bool{}
	for _, point := range l {
		if min(point.X, point.Y) < 0 || max(point.X, point.Y) > p-1 {
			return api.ErrArg
		}
		if seen[point.X] {
			return api.ErrThere
		}
		seen[point.X] = true
	}
	return api.OK
}

func TestP38CheckOfAllSmallLists(t *testing.T) {
	for _, p := range []int{2, 3} {
		eachList(-1, p, 3, func(l []api.Point) {
			if err := points.Check(p, l); err != search(p, l) {
				t.Errorf("Check(%d, %v) = %d, want %d", p, l, err, search(p, l))
			}
		})
	}
}

func TestP38CheckBeginsWithTheField(t *testing.T) {
	for _, p := range notFields {
		for _, l := range anything(3) {
			if err := points.Check(p, l); err != api.ErrArg {
				t.Errorf("Check(%d, %v) = %d, want %d", p, l, err, api.ErrArg)
			}
		}
	}
	for p := -1100; p <= 2000; p++ {
		want := api.OK
		if p > api.MaxField || !big.NewInt(int64(max(p, 0))).ProbablyPrime(10) {
			want = api.ErrArg
		}
		if err := points.Check(p, pointsOf(0, 1, 1, 1)); err != want {
			t.Errorf("Check(%d, ..) = %d, want %d", p, err, want)
		}
	}
}

func TestP39Through(t *testing.T) {
	for _, c := range []struct {
		p    int
		l    []api.Point
		want []int
	}{
		{7, pointsOf(0, 1, 1, 3), []int{1, 2}},
		{7, pointsOf(1, 3, 0, 1), []int{1, 2}},
		{7, pointsOf(0, 1, 1, 3, 2, 0), []int{1, 1, 1}},
		{7, pointsOf(0, 1, 1, 3, 2, 5), []int{1, 2}},
		{7, nil, nil},
		{7, []api.Point{}, nil},
		{7, pointsOf(3, 0), nil},
		{7, pointsOf(3, 5), []int{5}},
		{7, pointsOf(0, 0, 1, 1), []int{0, 1}},
		{7, pointsOf(0, 0, 1, 1, 2, 4), []int{0, 0, 1}},
		{2, pointsOf(0, 0, 1, 1), []int{0, 1}},
		{2, pointsOf(0, 1, 1, 0), []int{1, 1}},
		{2, pointsOf(0, 1, 1, 1), []int{1}},
		{2, pointsOf(1, 0, 0, 0), nil},
		{11, append(pointsOf(0, 0), row(1, 10, 1)...), []int{0, 0, 0, 0, 0, 0, 0, 0, 0, 0, 1}},
		{13, row(1, 12, 0), nil},
		{13, row(1, 12, 4), []int{4}},
		{13, append(row(1, 11, 0), pointsOf(0, 1)...), []int{1, 12, 1, 12, 1, 12, 1, 12, 1, 12, 1, 12}},
		{997, pointsOf(996, 0, 0, 996), []int{996, 996}},
	} {
		if f, err := points.Through(c.p, c.l); err != api.OK || !slices.Equal(f, c.want) {
			t.Errorf("Through(%d, %v) = %v, %d, want %v", c.p, c.l, f, err, c.want)
		}
	}
}

func TestP39ThroughAllSmallLists(t *testing.T) {
	for _, c := range []struct{ p, count int }{{2, 2}, {3, 3}, {5, 3}} {
		eachAllowed(c.p, c.count, func(l []api.Point) { checkThrough(t, c.p, l) })
	}
}

func TestP39ThroughManyLists(t *testing.T) {
	next := numbers()
	for _, p := range fields {
		for _, l := range pointLists(p) {
			checkThrough(t, p, l)
		}
		for range 300 {
			checkThrough(t, p, somePoints(p, next(min(p, most)+1), next))
		}
	}
}

// TestP39ThroughFindsThePolynomial takes points from a polynomial that has
// fewer coefficients than there are points, or as many.
func TestP39ThroughFindsThePolynomial(t *testing.T) {
	next := numbers()
	for _, p := range fields {
		for range 300 {
			count := 1 + next(min(p, most))
			f := make([]int, next(count+1))
			for i := range f {
				f[i] = 1 + next(p-1)
			}
			var l []api.Point
			for _, x := range someX(p, count, next) {
				l = append(l, api.Point{X: x, Y: value(p, f, x)})
			}
			if got, err := points.Through(p, l); err != api.OK || !slices.Equal(got, f) {
				t.Errorf("Through(%d, %v) = %v, %d, want %v", p, l, got, err, f)
			}
		}
	}
}

func TestP39Errors(t *testing.T) {
	check := func(p int, l []api.Point, want api.Errno) {
		if f, err := points.Through(p, l); err != want || len(f) != 0 {
			t.Errorf("Through(%d, %v) = %v, %d, want error %d", p, l, f, err, want)
		}
	}
	for _, p := range fields {
		for _, w := range wrongs(p) {
			check(p, w.l, w.err)
		}
	}
	for _, p := range notFields {
		for _, l := range anything(3) {
			check(p, l, api.ErrArg)
		}
	}
}

func TestP40At(t *testing.T) {
	line, bow := pointsOf(0, 1, 1, 3), pointsOf(0, 1, 1, 3, 2, 0)
	for _, c := range []struct {
		p    int
		l    []api.Point
		x    int
		want int
	}{
		{7, bow, 3, 6},
		{7, bow, 0, 1},
		{7, bow, 1, 3},
		{7, bow, 2, 0},
		{7, bow, 10, 6},
		{7, bow, -4, 6},
		{7, line, 2, 5},
		{7, line, 3, 0},
		{7, line, -1, 6},
		{7, line, 7, 1},
		{7, nil, 3, 0},
		{7, nil, math.MinInt, 0},
		{7, pointsOf(3, 5), 0, 5},
		{7, pointsOf(3, 5), math.MaxInt, 5},
		{2, pointsOf(0, 1, 1, 0), -1, 0},
		{997, pointsOf(0, 0, 1, 1), -1, 996},
		{997, pointsOf(0, 0, 1, 1), 997, 0},
	} {
		checkAt(t, c.p, c.l, c.x, c.want)
	}
}

func TestP40AtManyNumbers(t *testing.T) {
	for _, p := range fields {
		for _, l := range pointLists(p) {
			for _, x := range arguments {
				checkAt(t, p, l, x, lagrange(p, l, x))
			}
			for _, point := range l {
				checkAt(t, p, l, point.X, point.Y)
				checkAt(t, p, l, point.X-5*p, point.Y)
				checkAt(t, p, l, point.X+1000*p, point.Y)
			}
		}
	}
	eachAllowed(3, 3, func(l []api.Point) {
		for x := -4; x <= 4; x++ {
			checkAt(t, 3, l, x, lagrange(3, l, x))
		}
	})
}

func TestP40Errors(t *testing.T) {
	check := func(p int, l []api.Point, x int, want api.Errno) {
		if y, err := points.At(p, l, x); err != want || y != 0 {
			t.Errorf("At(%d, %v, %d) = %d, %d, want error %d", p, l, x, y, err, want)
		}
	}
	for _, x := range arguments {
		for _, p := range fields {
			for _, w := range wrongs(p) {
				check(p, w.l, x, w.err)
			}
		}
		for _, p := range notFields {
			for _, l := range anything(3) {
				check(p, l, x, api.ErrArg)
			}
		}
	}
}
