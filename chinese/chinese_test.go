package chinese_test

import (
	"math"
	"math/big"
	"slices"
	"testing"

	"wholemend/api"
	"wholemend/chinese"
)

const (
	most     = api.MaxSmall
	mostOf   = api.MaxRests
	greatest = math.MaxInt
)

// notModuli are numbers that no function of the package allows as a modulus.
var notModuli = []int{
	math.MinInt, math.MinInt + 1, math.MinInt32, -most, -7, -1, 0,
	most + 1, most + 2, api.MaxMod, api.MaxInt, math.MaxInt32, math.MaxInt - 1, greatest,
}

// notRests are congruences that are not allowed.
func notRests() []api.Rest {
	l := []api.Rest{
		{R: -1, M: 1}, {R: 1, M: 1}, {R: -1, M: 3}, {R: 3, M: 3}, {R: 4, M: 3},
		{R: -1, M: most}, {R: most, M: most}, {R: most + 1, M: most},
		{R: math.MinInt, M: 3}, {R: math.MinInt + 1, M: most},
		{R: greatest, M: 3}, {R: greatest - 1, M: most}, {R: math.MaxInt32, M: 1},
	}
	for _, m := range notModuli {
		l = append(l, api.Rest{R: 0, M: m}, api.Rest{R: -1, M: m}, api.Rest{R: m, M: m},
			api.Rest{R: m - 1, M: m}, api.Rest{R: 1, M: m})
	}
	return l
}

// numbers are those that are tried for n, allowed or not.
var numbers = []int{
	math.MinInt, math.MinInt + 1, math.MinInt32, -most, -2, -1, 0, 1, 2, 3, 5, 23, 999,
	most, most + 1, api.MaxInt, math.MaxInt32, 1e15, 1e18 - 1, 1e18, greatest - 1, greatest,
}

// moduli are lists that are allowed: those up to the bounds, those that are
// coprime, and those that are not.
func moduli() [][]int {
	return [][]int{
		nil, {}, {1}, {2}, {7}, {most}, {3, 5}, {3, 5, 7}, {6, 4}, {4, 6}, {1, 1, 1}, {7, 7},
		{5, 3, 5}, {12, 18, 8}, {2, 3, 5, 7, 11, 13}, {1, most, 1, most, 1, most},
		{most, most, most, most, most, most},
		{most, 999, 997, 991, 983, 977}, // no two have a divisor in common
		{most, 999, 998, 997, 996, 995},
		{995, 996, 997, 998, 999, most},
		{512, 729, 625, 343, 121, 169},
		{512, 256, 768, 960, 900, 720},
	}
}

// systems are lists of congruences, allowed or not.
func systems() [][]api.Rest {
	l := [][]api.Rest{nil, {}, {{R: 4, M: 6}, {R: 2, M: 4}}, {{R: 1, M: 6}, {R: 2, M: 4}}}
	for _, mods := range moduli() {
		first, last := make([]api.Rest, len(mods)), make([]api.Rest, len(mods))
		for i, m := range mods {
			first[i], last[i] = api.Rest{R: 0, M: m}, api.Rest{R: m - 1, M: m}
		}
		l = append(l, first, last, withRests(mods, 7), withRests(mods, 1e17+3))
	}
	for _, r := range notRests() {
		l = append(l, []api.Rest{r}, []api.Rest{{R: 1, M: 2}, r}, []api.Rest{r, {R: 1, M: 2}})
	}
	for _, count := range []int{mostOf + 1, mostOf + 2, 100} {
		l = append(l, slices.Repeat([]api.Rest{{R: 1, M: 2}}, count))
	}
	return l
}

// moduliOrNot are lists of moduli, allowed or not.
func moduliOrNot() [][]int {
	l := moduli()
	for _, m := range notModuli {
		l = append(l, []int{m}, []int{2, m}, []int{m, 2})
	}
	for _, count := range []int{mostOf + 1, mostOf + 2, 100} {
		l = append(l, slices.Repeat([]int{2}, count), slices.Repeat([]int{0}, count))
	}
	return l
}

// withRests returns the system that n solves.
func withRests(mods []int, n int) []api.Rest {
	var l []api.Rest
	for _, m := range mods {
		l = append(l, api.Rest{R: n % m, M: m})
	}
	return l
}

// multipleOf returns the least common multiple, by numbers without bounds.
func multipleOf(l []api.Rest) *big.Int {
	multiple := big.NewInt(1)
	for _, r := range l {
		m := big.NewInt(int64(r.M))
		gcd := new(big.Int).GCD(nil, nil, multiple, m)
		multiple.Mul(multiple, m.Div(m, gcd))
	}
	return multiple
}

func solves(n int, l []api.Rest) bool {
	for _, r := range l {
		if n%r.M != r.R {
			return false
		}
	}
	return true
}

// searchJoin tries every number up to the least common multiple.
func searchJoin(l []api.Rest) (int, int, api.Errno) {
	multiple := int(multipleOf(l).Int64())
	for n := range multiple {
		if solves(n, l) {
			return n, multiple, api.OK
		}
	}
	return 0, 0, api.ErrNone
}

// agree tells whether every two of the congruences have a solution, by which
// all of them together have one.
func agree(l []api.Rest) bool {
	for i, r := range l {
		for _, s := range l[:i] {
			gcd := new(big.Int).GCD(nil, nil, big.NewInt(int64(r.M)), big.NewInt(int64(s.M)))
			if (r.R-s.R)%int(gcd.Int64()) != 0 {
				return false
			}
		}
	}
	return true
}

// checkJoin checks the properties that together leave one right result.
func checkJoin(t *testing.T, l []api.Rest) {
	t.Helper()
	n, multiple, err := chinese.Join(l)
	if !agree(l) {
		if n != 0 || multiple != 0 || err != api.ErrNone {
			t.Errorf("Join(%v) = %d, %d, %d, want error %d", l, n, multiple, err, api.ErrNone)
		}
		return
	}
	want := multipleOf(l)
	if err != api.OK || !want.IsInt64() || int64(multiple) != want.Int64() ||
		n < 0 || n >= multiple || !solves(n, l) {
		t.Errorf("Join(%v) = %d, %d, %d, want multiple %d", l, n, multiple, err, want)
	}
}

// eachSmallSystem visits all systems of count congruences with moduli up to m.
func eachSmallSystem(count, m int, visit func(l []api.Rest)) {
	l := make([]api.Rest, count)
	var fill func(i int)
	fill = func(i int) {
		if i == count {
			visit(l)
			return
		}
		for l[i].M = 1; l[i].M <= m; l[i].M++ {
			for l[i].R = 0; l[i].R < l[i].M; l[i].R++ {
				fill(i + 1)
			}
		}
	}
	fill(0)
}

func TestP1NoArgumentPanics(t *testing.T) {
	guard := func(what any, call func()) {
		defer func() {
			if r := recover(); r != nil {
				t.Errorf("%v panics: %v", what, r)
			}
		}()
		call()
	}
	for _, l := range systems() {
		guard(l, func() { chinese.Check(l) })
		guard(l, func() { chinese.Join(l) })
	}
	for _, mods := range moduliOrNot() {
		for _, n := range numbers {
			guard(mods, func() { chinese.Parts(n, mods) })
		}
	}
}

func TestP2ResultsDependOnlyOnArguments(t *testing.T) {
	type results struct {
		n, multiple                 int
		parts                       []api.Rest
		checkErr, joinErr, partsErr api.Errno
	}
	call := func() (all []results) {
		for _, l := range systems() {
			var r results
			r.checkErr = chinese.Check(l)
			r.n, r.multiple, r.joinErr = chinese.Join(l)
			all = append(all, r)
		}
		for _, mods := range moduliOrNot() {
			for _, n := range numbers {
				var r results
				r.parts, r.partsErr = chinese.Parts(n, mods)
				all = append(all, r)
			}
		}
		return all
	}
	first := call()
	for i, again := range call() {
		was := first[i]
		if again.n != was.n || again.multiple != was.multiple || !slices.Equal(again.parts, was.parts) ||
			again.checkErr != was.checkErr || again.joinErr != was.joinErr || again.partsErr != was.partsErr {
			t.Errorf("call %d: first %+v, then %+v", i, was, again)
		}
	}
}

func TestP2ArgumentsStayAsTheyAre(t *testing.T) {
	// What lies behind the length stays, too.
	spare := api.Rest{R: -5, M: -6}
	for _, l := range systems() {
		whole := append(slices.Clone(l), spare, spare)
		want := slices.Clone(whole)
		chinese.Check(whole[:len(l)])
		chinese.Join(whole[:len(l)])
		if !slices.Equal(whole, want) {
			t.Errorf("%v became %v", want, whole)
		}
	}
	for _, mods := range moduliOrNot() {
		whole := append(slices.Clone(mods), -5, -6)
		want := slices.Clone(whole)
		chinese.Parts(23, whole[:len(mods)])
		if !slices.Equal(whole, want) {
			t.Errorf("%v became %v", want, whole)
		}
	}
}

func TestP2PartsAreNewMemory(t *testing.T) {
	for _, mods := range moduli() {
		want := withRests(mods, 1e17+3)
		first, _ := chinese.Parts(1e17+3, mods)
		second, _ := chinese.Parts(1e17+3, mods)
		// What lies behind the length is the caller's, too.
		spare := first[:cap(first)]
		for i := range spare {
			spare[i] = api.Rest{R: -1, M: -1}
		}
		// Before the third call, which could put shared memory right again.
		if !slices.Equal(second, want) {
			t.Errorf("Parts of %v are %v after a change of others, want %v", mods, second, want)
		}
		third, _ := chinese.Parts(1e17+3, mods)
		if !slices.Equal(third, want) {
			t.Errorf("Parts of %v are then %v, want %v", mods, third, want)
		}
	}
}

func TestP2OtherResultsAreZeroWithAnError(t *testing.T) {
	for _, l := range systems() {
		if n, multiple, err := chinese.Join(l); err != api.OK && (n != 0 || multiple != 0) {
			t.Errorf("Join(%v) = %d, %d with error %d", l, n, multiple, err)
		}
	}
	for _, mods := range moduliOrNot() {
		for _, n := range numbers {
			if parts, err := chinese.Parts(n, mods); err != api.OK && len(parts) != 0 {
				t.Errorf("Parts(%d, %v) = %v with error %d", n, mods, parts, err)
			}
		}
	}
}

func TestP13AllowedSystems(t *testing.T) {
	for _, count := range []int{0, 1, 2} {
		eachSmallSystem(count, 12, func(l []api.Rest) {
			if err := chinese.Check(l); err != api.OK {
				t.Errorf("Check(%v) = %d", l, err)
			}
		})
	}
	for m := 1; m <= most; m++ {
		for _, r := range []int{0, m / 2, m - 1} {
			l := slices.Repeat([]api.Rest{{R: r, M: m}}, mostOf)
			if err := chinese.Check(l); err != api.OK {
				t.Errorf("Check(%v) = %d", l, err)
			}
		}
	}
	// A system that has no solution is a right one all the same.
	if err := chinese.Check([]api.Rest{{R: 1, M: 6}, {R: 2, M: 4}}); err != api.OK {
		t.Errorf("Check without a solution = %d", err)
	}
}

func TestP13And14WrongCongruences(t *testing.T) {
	good := api.Rest{R: 1, M: 2}
	for _, bad := range notRests() {
		for place := range mostOf {
			l := slices.Repeat([]api.Rest{good}, mostOf)
			l[place] = bad
			if err := chinese.Check(l); err != api.ErrArg {
				t.Errorf("Check(%v) = %d, want %d", l, err, api.ErrArg)
			}
			if _, _, err := chinese.Join(l); err != api.ErrArg {
				t.Errorf("Join(%v): error %d, want %d", l, err, api.ErrArg)
			}
			// Without a solution, the wrong congruence still counts first.
			l[(place+1)%mostOf] = api.Rest{R: 0, M: 2}
			if _, _, err := chinese.Join(l); err != api.ErrArg {
				t.Errorf("Join(%v): error %d, want %d", l, err, api.ErrArg)
			}
		}
	}
}

func TestP13And14TooManyCongruences(t *testing.T) {
	for _, count := range []int{mostOf + 1, mostOf + 2, 100} {
		good := slices.Repeat([]api.Rest{{R: 0, M: 1}}, count)
		clash := slices.Clone(good)
		clash[0], clash[1] = api.Rest{R: 0, M: 2}, api.Rest{R: 1, M: 2}
		first, last := slices.Clone(good), slices.Clone(good)
		first[0], last[count-1] = api.Rest{R: 3, M: 3}, api.Rest{R: 0, M: 0}
		for _, l := range [][]api.Rest{good, clash, first, last} {
			if err := chinese.Check(l); err != api.ErrLarge {
				t.Errorf("Check(%v) = %d, want %d", l, err, api.ErrLarge)
			}
			if _, _, err := chinese.Join(l); err != api.ErrLarge {
				t.Errorf("Join(%v): error %d, want %d", l, err, api.ErrLarge)
			}
		}
	}
}

func TestP14Join(t *testing.T) {
	for _, c := range []struct {
		l           []api.Rest
		n, multiple int
	}{
		{nil, 0, 1},
		{[]api.Rest{}, 0, 1},
		{[]api.Rest{{R: 0, M: 1}}, 0, 1},
		{[]api.Rest{{R: 0, M: 7}}, 0, 7},
		{[]api.Rest{{R: 6, M: 7}}, 6, 7},
		{[]api.Rest{{R: 999, M: 1000}}, 999, 1000},
		{[]api.Rest{{R: 2, M: 3}, {R: 3, M: 5}}, 8, 15},
		{[]api.Rest{{R: 3, M: 5}, {R: 2, M: 3}}, 8, 15},
		{[]api.Rest{{R: 2, M: 3}, {R: 3, M: 5}, {R: 2, M: 7}}, 23, 105},
		{[]api.Rest{{R: 4, M: 6}, {R: 2, M: 4}}, 10, 12},
		{[]api.Rest{{R: 3, M: 7}, {R: 3, M: 7}}, 3, 7},
		{[]api.Rest{{R: 1, M: 2}, {R: 3, M: 4}, {R: 7, M: 8}}, 7, 8},
		{[]api.Rest{{R: 7, M: 8}, {R: 3, M: 4}, {R: 1, M: 2}}, 7, 8},
		{[]api.Rest{{R: 0, M: 1}, {R: 2, M: 3}, {R: 0, M: 1}}, 2, 3},
		{slices.Repeat([]api.Rest{{R: 5, M: 1000}}, 6), 5, 1000},
		// Six moduli that are coprime and leave one less: the greatest result.
		{
			[]api.Rest{
				{R: 999, M: 1000}, {R: 998, M: 999}, {R: 996, M: 997},
				{R: 990, M: 991}, {R: 982, M: 983}, {R: 976, M: 977},
			},
			1000*999*997*991*983*977 - 1, 1000 * 999 * 997 * 991 * 983 * 977,
		},
	} {
		n, multiple, err := chinese.Join(c.l)
		if err != api.OK || n != c.n || multiple != c.multiple {
			t.Errorf("Join(%v) = %d, %d, %d, want %d, %d", c.l, n, multiple, err, c.n, c.multiple)
		}
	}
}

func TestP14JoinOfSmallSystems(t *testing.T) {
	check := func(l []api.Rest) {
		wantN, wantMultiple, wantErr := searchJoin(l)
		n, multiple, err := chinese.Join(l)
		if n != wantN || multiple != wantMultiple || err != wantErr {
			t.Errorf("Join(%v) = %d, %d, %d, want %d, %d, %d",
				l, n, multiple, err, wantN, wantMultiple, wantErr)
		}
	}
	eachSmallSystem(1, 60, check)
	eachSmallSystem(2, 16, check)
	eachSmallSystem(3, 7, check)
	eachSmallSystem(4, 4, check)
}

func TestP14JoinOfLargeSystems(t *testing.T) {
	seed := uint32(1)
	next := func(below int) int {
		seed = seed*1664525 + 1013904223
		return int(seed>>8) % below
	}
	for range 20000 {
		mods := make([]int, next(mostOf+1))
		for i := range mods {
			mods[i] = most - next(most)
			if next(2) == 0 {
				mods[i] = most - next(20)
			}
		}
		n := (next(1e7)*1e7+next(1e7))*1000 + next(1000)
		l := withRests(mods, n)
		if !agree(l) {
			t.Fatalf("%v has the solution %d", l, n)
		}
		checkJoin(t, l)
		if len(l) > 0 {
			// One remainder more than the solution's, which may leave none.
			last := &l[len(l)-1]
			last.R = (last.R + 1) % last.M
			checkJoin(t, l)
		}
	}
}

func TestP14JoinBringsPartsTogether(t *testing.T) {
	for _, mods := range moduli() {
		for _, n := range numbers {
			if n < 0 {
				continue
			}
			parts, err := chinese.Parts(n, mods)
			if err != api.OK {
				t.Fatalf("Parts(%d, %v): error %d", n, mods, err)
			}
			whole, multiple, err := chinese.Join(parts)
			if want := multipleOf(parts); err != api.OK || int64(multiple) != want.Int64() || whole != n%multiple {
				t.Errorf("Join(%v) = %d, %d, %d, for %d", parts, whole, multiple, err, n)
			}
		}
	}
}

func TestP14NoSolution(t *testing.T) {
	for _, l := range [][]api.Rest{
		{{R: 0, M: 2}, {R: 1, M: 2}},
		{{R: 1, M: 6}, {R: 2, M: 4}},
		{{R: 2, M: 4}, {R: 1, M: 6}},
		{{R: 0, M: most}, {R: 1, M: most}},
		{{R: 0, M: most}, {R: 999, M: most}},
		{{R: 0, M: 3}, {R: 0, M: 5}, {R: 1, M: 15}},
		{{R: 0, M: 1}, {R: 1, M: 2}, {R: 0, M: 3}, {R: 1, M: 5}, {R: 1, M: 7}, {R: 2, M: 14}},
		{{R: 1, M: 999}, {R: 1, M: 998}, {R: 1, M: 997}, {R: 1, M: 991}, {R: 1, M: 983}, {R: 0, M: 982}},
		// Only the first two have no solution in common.
		{{R: 0, M: 4}, {R: 2, M: 4}, {R: 0, M: 1}, {R: 0, M: 2}},
	} {
		n, multiple, err := chinese.Join(l)
		if n != 0 || multiple != 0 || err != api.ErrNone {
			t.Errorf("Join(%v) = %d, %d, %d, want error %d", l, n, multiple, err, api.ErrNone)
		}
	}
}

func TestP15Parts(t *testing.T) {
	for _, c := range []struct {
		n    int
		mods []int
		want []api.Rest
	}{
		{0, nil, nil},
		{greatest, []int{}, nil},
		{0, []int{1}, []api.Rest{{R: 0, M: 1}}},
		{5, []int{1}, []api.Rest{{R: 0, M: 1}}},
		{23, []int{3, 5}, []api.Rest{{R: 2, M: 3}, {R: 3, M: 5}}},
		{23, []int{5, 3}, []api.Rest{{R: 3, M: 5}, {R: 2, M: 3}}},
		{10, []int{4, 6, 4}, []api.Rest{{R: 2, M: 4}, {R: 4, M: 6}, {R: 2, M: 4}}},
		{999, []int{most}, []api.Rest{{R: 999, M: most}}},
		{most, []int{most}, []api.Rest{{R: 0, M: most}}},
		{greatest, []int{most, 2, 7}, []api.Rest{{R: 807, M: most}, {R: 1, M: 2}, {R: 0, M: 7}}},
	} {
		parts, err := chinese.Parts(c.n, c.mods)
		if err != api.OK || !slices.Equal(parts, c.want) {
			t.Errorf("Parts(%d, %v) = %v, %d, want %v", c.n, c.mods, parts, err, c.want)
		}
	}
}

func TestP15PartsOfAllowedNumbers(t *testing.T) {
	for _, mods := range moduli() {
		for _, n := range numbers {
			if n < 0 {
				continue
			}
			parts, err := chinese.Parts(n, mods)
			if err != api.OK || !slices.Equal(parts, withRests(mods, n)) {
				t.Errorf("Parts(%d, %v) = %v, %d", n, mods, parts, err)
			}
		}
	}
	for m := 1; m <= most; m++ {
		parts, err := chinese.Parts(m*7+m/2, []int{m})
		if err != api.OK || !slices.Equal(parts, []api.Rest{{R: m / 2, M: m}}) {
			t.Errorf("Parts(%d, [%d]) = %v, %d", m*7+m/2, m, parts, err)
		}
	}
}

func TestP15Errors(t *testing.T) {
	check := func(n int, mods []int, want api.Errno) {
		t.Helper()
		if parts, err := chinese.Parts(n, mods); err != want || len(parts) != 0 {
			t.Errorf("Parts(%d, %v) = %v, %d, want error %d", n, mods, parts, err, want)
		}
	}
	for _, n := range numbers {
		if n < 0 {
			// A negative number comes first, whatever the moduli are.
			for _, mods := range moduliOrNot() {
				check(n, mods, api.ErrArg)
			}
			continue
		}
		for _, bad := range notModuli {
			for place := range mostOf {
				mods := slices.Repeat([]int{7}, mostOf)
				mods[place] = bad
				check(n, mods, api.ErrArg)
			}
			// Too many of them come before a wrong one.
			check(n, slices.Repeat([]int{bad}, mostOf+1), api.ErrLarge)
		}
		for _, count := range []int{mostOf + 1, mostOf + 2, 100} {
			check(n, slices.Repeat([]int{7}, count), api.ErrLarge)
		}
	}
}
