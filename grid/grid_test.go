package grid_test

import (
	"math"
	"slices"
	"testing"

	"wholemend/api"
	"wholemend/field"
	"wholemend/grid"
	"wholemend/matrix"
)

const most = api.MaxSide

// wrong is a list of bytes that neither function allows.
type wrong struct {
	l   []byte
	err api.Errno
}

// numbers returns a function for numbers from 0 to below - 1, always the same.
func numbers() func(below int) int {
	seed := uint32(1)
	return func(below int) int {
		seed = seed*1664525 + 1013904223
		return int(seed>>8) % below
	}
}

// different returns so many bytes, no two of which are equal.
func different(count int, next func(below int) int) []byte {
	all := make([]byte, 256)
	for i := range all {
		j := next(i + 1)
		all[i] = all[j]
		all[j] = byte(i)
	}
	return all[:count:count]
}

// rising returns so many bytes, from the first one on, each greater by 1.
func rising(first byte, count int) []byte {
	l := make([]byte, count)
	for i := range l {
		l[i] = first + byte(i)
	}
	return l
}

// rights are lists that both functions allow.
func rights() [][]byte {
	next := numbers()
	all := [][]byte{{1, 2}, {2, 1}, {0, 1}, {255, 0}, {1, 2, 4, 8, 16, 32, 64, 128}, {29, 2, 0, 142}}
	for count := 1; count <= most; count++ {
		down := rising(0, count)
		slices.Reverse(down)
		all = append(all, rising(0, count), down, rising(1, count), rising(255, count),
			rising(200, count), different(count, next), different(count, next))
	}
	return all
}

// wrongs are lists that neither function allows, with what is wrong first.
func wrongs() []wrong {
	next := numbers()
	all := []wrong{
		{nil, api.ErrLarge},
		{[]byte{}, api.ErrLarge},
		{[]byte{1, 1}, api.ErrThere},
		{[]byte{0, 0}, api.ErrThere},
		{[]byte{255, 255}, api.ErrThere},
		{[]byte{1, 2, 1}, api.ErrThere},
		{[]byte{1, 2, 2}, api.ErrThere},
		{[]byte{2, 2, 1}, api.ErrThere},
		{[]byte{1, 2, 3, 0, 0}, api.ErrThere},
		{make([]byte, most), api.ErrThere},
	}
	// Too many are too many before two of them are equal.
	for _, count := range []int{most + 1, most + 2, 2 * most, 255, 256, 257, 256 + most, 1000, 1<<16 + 1} {
		all = append(all, wrong{rising(0, count), api.ErrLarge}, wrong{make([]byte, count), api.ErrLarge})
	}
	for count := 2; count <= most; count++ {
		for i := range count {
			for j := range i {
				l := different(count, next)
				l[i] = l[j]
				all = append(all, wrong{l, api.ErrThere})
			}
		}
	}
	return all
}

// lists are those above, right and wrong.
func lists() [][]byte {
	all := rights()
	for _, w := range wrongs() {
		all = append(all, w.l)
	}
	return all
}

// badSides are numbers of columns that Powers does not allow.
var badSides = []int{
	math.MinInt, math.MinInt + 1, math.MinInt32, -(1 << 32) + 1, -api.MaxInt, -256, -255, -most, -1, 0,
	most + 1, most + 2, 255, 256, 257, 256 + most, 65537, api.MaxInt, math.MaxInt32, 1<<32 + 1, 1<<32 + most, math.MaxInt,
}

// cloned returns the same matrix in other memory.
func cloned(m [][]byte) [][]byte {
	all := make([][]byte, len(m))
	for i, row := range m {
		all[i] = slices.Clone(row)
	}
	return all
}

// same tells whether two matrices are equal.
func same(a, b [][]byte) bool {
	return slices.EqualFunc(a, b, func(x, y []byte) bool { return slices.Equal(x, y) })
}

// call is one of a function, with its arguments.
type call struct {
	name string
	a, b []byte
	n    int
}

// do returns what the function returns.
func (c call) do() ([][]byte, api.Errno) {
	if c.name == "Powers" {
		return grid.Powers(c.a, c.n)
	}
	return grid.Crossed(c.a, c.b)
}

// calls are those of both functions with the arguments above.
func calls() []call {
	var all []call
	for _, a := range lists() {
		for n := 1; n <= most; n++ {
			all = append(all, call{name: "Powers", a: a, n: n})
		}
		for _, n := range badSides {
			all = append(all, call{name: "Powers", a: a, n: n})
		}
		for _, b := range lists() {
			all = append(all, call{name: "Crossed", a: a, b: b})
		}
	}
	return all
}

// results are calls of both functions that have no error, of all sizes.
func results() []call {
	next := numbers()
	var all []call
	for rows := 1; rows <= most; rows++ {
		for columns := 1; columns <= most; columns++ {
			l := different(rows+columns, next)
			all = append(all, call{name: "Powers", a: l[:rows:rows], n: columns},
				call{name: "Crossed", a: l[:rows:rows], b: l[rows:]})
		}
	}
	return all
}

func TestP1NoArgumentPanics(t *testing.T) {
	for _, c := range calls() {
		func() {
			defer func() {
				if r := recover(); r != nil {
					t.Errorf("%s of %v, %v, %d panics: %v", c.name, c.a, c.b, c.n, r)
				}
			}()
			c.do()
		}()
	}
}

func TestP2ResultsDependOnlyOnArguments(t *testing.T) {
	type result struct {
		m   [][]byte
		err api.Errno
	}
	all := calls()
	first := make([]result, len(all))
	for i, c := range all {
		m, err := c.do()
		first[i] = result{m, err}
	}
	check := func(i int) {
		c := all[i]
		if m, err := c.do(); err != first[i].err || !same(m, first[i].m) {
			t.Errorf("%s of %v, %v, %d: first %v, then %v, %d", c.name, c.a, c.b, c.n, first[i], m, err)
		}
	}
	for i := range all {
		check(i)
	}
	// Nor does it count which calls come before.
	for i := range slices.Backward(all) {
		check(i)
	}
}

func TestP2OtherResultsAreZeroWithAnError(t *testing.T) {
	for _, c := range calls() {
		if m, err := c.do(); err != api.OK && len(m) != 0 {
			t.Errorf("%s of %v, %v, %d = %v with error %d", c.name, c.a, c.b, c.n, m, err)
		}
	}
}

func TestP2ArgumentsStayAsTheyAre(t *testing.T) {
	for _, c := range calls() {
		c.a = append(slices.Clone(c.a), 5, 6, 7)[:len(c.a)]
		c.b = append(slices.Clone(c.b), 5, 6, 7)[:len(c.b)]
		a, b := slices.Clone(c.a[:cap(c.a)]), slices.Clone(c.b[:cap(c.b)])
		c.do()
		if !slices.Equal(c.a[:cap(c.a)], a) || !slices.Equal(c.b[:cap(c.b)], b) {
			t.Errorf("%s changes its arguments %v, %v", c.name, a, b)
		}
	}
}

// TestP2ArgumentsMayShareMemory checks lists that lie behind one another, and
// lists that overlap.
func TestP2ArgumentsMayShareMemory(t *testing.T) {
	flat := different(2*most, numbers())
	for first := 1; first <= most; first++ {
		for from := range first + 1 {
			a, b := flat[:first], flat[from:from+most]
			got, err := grid.Crossed(a, b)
			apart, other := grid.Crossed(slices.Clone(a), slices.Clone(b))
			if err != other || !same(got, apart) {
				t.Errorf("Crossed(%v, %v) = %v, %d, but %v, %d in memory of their own", a, b, got, err, apart, other)
			}
			if want := from < first; want != (err == api.ErrThere) {
				t.Errorf("Crossed(%v, %v) has error %d", a, b, err)
			}
		}
	}
}

// spoil writes to all memory behind a row.
func spoil(row []byte) {
	row = row[:cap(row)]
	for i := range row {
		row[i] ^= 0xa5
	}
}

func TestP2ResultsAreNewMemory(t *testing.T) {
	for _, c := range results() {
		first, err := c.do()
		second, _ := c.do()
		if err != api.OK {
			t.Fatalf("%s of %v, %v, %d has error %d", c.name, c.a, c.b, c.n, err)
		}
		want, a, b := cloned(second), slices.Clone(c.a), slices.Clone(c.b)
		for _, row := range first {
			spoil(row)
		}
		clear(first[:cap(first)])
		if !slices.Equal(c.a, a) || !slices.Equal(c.b, b) {
			t.Fatalf("%s shares its result with an argument", c.name)
		}
		if !same(second, want) {
			t.Fatalf("%s shares its result with another one", c.name)
		}
		if third, _ := c.do(); !same(third, want) {
			t.Fatalf("%s keeps its result", c.name)
		}
	}
}

func TestP2RowsOfResultsShareNoMemory(t *testing.T) {
	for _, c := range results() {
		rows, _ := c.do()
		for i := range rows {
			want := cloned(rows)
			want[i] = nil
			spoil(rows[i])
			rows[i] = nil
			if !same(rows, want) {
				t.Fatalf("%s returns row %d in the memory of another one", c.name, i)
			}
		}
	}
}

// TestP2ArgumentsAreNotRetained writes other lists to the memory of those that
// an earlier call had.
func TestP2ArgumentsAreNotRetained(t *testing.T) {
	for _, c := range results() {
		c.a, c.b = slices.Clone(c.a), slices.Clone(c.b)
		first, _ := c.do()
		want := cloned(first)
		spoil(c.a)
		spoil(c.b)
		if !same(first, want) {
			t.Fatalf("%s returns memory of its arguments", c.name)
		}
		got, err := c.do()
		c.a, c.b = slices.Clone(c.a), slices.Clone(c.b)
		if apart, other := c.do(); err != api.OK || other != api.OK || !same(got, apart) {
			t.Fatalf("%s of %v, %v, %d = %v, %d, but %v, %d in other memory", c.name, c.a, c.b, c.n, got, err, apart, other)
		}
	}
}

func checkPowers(t *testing.T, l []byte, n int, want [][]byte) {
	t.Helper()
	if m, err := grid.Powers(l, n); err != api.OK || !same(m, want) {
		t.Errorf("Powers(%v, %d) = %v, %d, want %v", l, n, m, err, want)
	}
}

func checkNoPowers(t *testing.T, l []byte, n int, want api.Errno) {
	t.Helper()
	if m, err := grid.Powers(l, n); len(m) != 0 || err != want {
		t.Errorf("Powers(%v, %d) = %v, %d, want error %d", l, n, m, err, want)
	}
}

// products returns the rows of each byte's products with itself, from 1 on.
func products(l []byte, n int) [][]byte {
	rows := make([][]byte, len(l))
	for i, b := range l {
		power := byte(1)
		for range n {
			rows[i] = append(rows[i], power)
			power = field.Mul(power, b)
		}
	}
	return rows
}

func TestP57Powers(t *testing.T) {
	for _, c := range []struct {
		l    []byte
		n    int
		want [][]byte
	}{
		{[]byte{1, 2}, 3, [][]byte{{1, 1, 1}, {1, 2, 4}}},
		{[]byte{2, 1}, 3, [][]byte{{1, 2, 4}, {1, 1, 1}}},
		{[]byte{2, 3}, 3, [][]byte{{1, 2, 4}, {1, 3, 5}}},
		{[]byte{7}, 1, [][]byte{{1}}},
		{[]byte{0}, 1, [][]byte{{1}}},
		{[]byte{0}, 4, [][]byte{{1, 0, 0, 0}}},
		{[]byte{9, 0, 255}, 2, [][]byte{{1, 9}, {1, 0}, {1, 255}}},
		{[]byte{255, 16}, 3, [][]byte{{1, 255, 226}, {1, 16, 29}}},
		{[]byte{2}, 12, [][]byte{{1, 2, 4, 8, 16, 32, 64, 128, 29, 58, 116, 232}}},
		{rising(0, 12), 2, [][]byte{
			{1, 0}, {1, 1}, {1, 2}, {1, 3}, {1, 4}, {1, 5}, {1, 6}, {1, 7}, {1, 8}, {1, 9}, {1, 10}, {1, 11},
		}},
	} {
		checkPowers(t, c.l, c.n, c.want)
	}
}

func TestP57PowersOfAllBytes(t *testing.T) {
	for b := range 256 {
		l := []byte{byte(b)}
		for n := 1; n <= most; n++ {
			checkPowers(t, l, n, products(l, n))
			m, _ := grid.Powers(l, n)
			for k := range n {
				if power, err := field.Pow(byte(b), k); err != api.OK || len(m) != 1 || m[0][k] != power {
					t.Errorf("Powers(%v, %d) = %v, but Pow(%d, %d) = %d, %d", l, n, m, b, k, power, err)
				}
			}
		}
	}
}

func TestP57PowersOfAllSizes(t *testing.T) {
	for _, l := range rights() {
		for n := 1; n <= most; n++ {
			checkPowers(t, l, n, products(l, n))
		}
	}
}

// TestP57EnoughRowsAreInvertible checks that any rows make an invertible matrix
// that are as many as the columns.
func TestP57EnoughRowsAreInvertible(t *testing.T) {
	next := numbers()
	lists := [][]byte{rising(0, most), rising(1, most), rising(250, most), different(most, next)}
	for _, l := range lists {
		for n := 1; n <= most; n++ {
			m, err := grid.Powers(l, n)
			if err != api.OK {
				t.Fatalf("Powers(%v, %d) has error %d", l, n, err)
			}
			for _, rows := range subsets(most, n) {
				checkInvertible(t, part(m, rows, subsets(n, n)[0]))
			}
		}
	}
}

func TestP57Errors(t *testing.T) {
	for _, w := range wrongs() {
		for n := 1; n <= most; n++ {
			checkNoPowers(t, w.l, n, w.err)
		}
		// What is wrong with l goes before what is wrong with n.
		for _, n := range badSides {
			checkNoPowers(t, w.l, n, w.err)
		}
	}
	for _, l := range rights() {
		for _, n := range badSides {
			checkNoPowers(t, l, n, api.ErrArg)
		}
	}
}

// subsets returns all increasing lists of so many numbers below n.
func subsets(n, count int) [][]int {
	var all [][]int
	for s := range 1 << n {
		var l []int
		for i := range n {
			if s>>i&1 == 1 {
				l = append(l, i)
			}
		}
		if len(l) == count {
			all = append(all, l)
		}
	}
	return all
}

// part returns the matrix of some rows and columns of m.
func part(m [][]byte, rows, columns []int) [][]byte {
	all := make([][]byte, len(rows))
	for i, row := range rows {
		for _, column := range columns {
			all[i] = append(all[i], m[row][column])
		}
	}
	return all
}

func checkInvertible(t *testing.T, m [][]byte) {
	t.Helper()
	if det, err := matrix.Det(m); err != api.OK || det == 0 {
		t.Errorf("Det(%v) = %d, %d", m, det, err)
	}
}

func checkCrossed(t *testing.T, a, b []byte, want [][]byte) {
	t.Helper()
	if m, err := grid.Crossed(a, b); err != api.OK || !same(m, want) {
		t.Errorf("Crossed(%v, %v) = %v, %d, want %v", a, b, m, err, want)
	}
}

func checkNotCrossed(t *testing.T, a, b []byte, want api.Errno) {
	t.Helper()
	if m, err := grid.Crossed(a, b); len(m) != 0 || err != want {
		t.Errorf("Crossed(%v, %v) = %v, %d, want error %d", a, b, m, err, want)
	}
}

// inverses returns for each pair the byte whose product with its sum is 1.
func inverses(a, b []byte) [][]byte {
	rows := make([][]byte, len(a))
	for i, x := range a {
		for _, y := range b {
			inverse := 0
			for inverse < 256 && field.Mul(byte(inverse), x^y) != 1 {
				inverse++
			}
			rows[i] = append(rows[i], byte(inverse))
		}
	}
	return rows
}

func TestP58Crossed(t *testing.T) {
	for _, c := range []struct {
		a, b []byte
		want [][]byte
	}{
		{[]byte{2}, []byte{3, 0}, [][]byte{{1, 142}}},
		{[]byte{3, 0}, []byte{2}, [][]byte{{1}, {142}}},
		{[]byte{0}, []byte{1}, [][]byte{{1}}},
		{[]byte{1}, []byte{0}, [][]byte{{1}}},
		{[]byte{1}, []byte{2}, [][]byte{{244}}},
		{[]byte{0}, []byte{255}, [][]byte{{253}}},
		{[]byte{255}, []byte{127}, [][]byte{{27}}},
		{[]byte{0, 1}, []byte{2, 3}, [][]byte{{142, 244}, {244, 142}}},
		{[]byte{0, 1}, []byte{3, 2}, [][]byte{{244, 142}, {142, 244}}},
		{[]byte{1, 2}, []byte{0, 3, 6}, [][]byte{{1, 142, 186}, {142, 1, 71}}},
	} {
		checkCrossed(t, c.a, c.b, c.want)
	}
}

func TestP58CrossedOfAllBytes(t *testing.T) {
	for x := range 256 {
		for y := range 256 {
			a, b := []byte{byte(x)}, []byte{byte(y)}
			if x == y {
				checkNotCrossed(t, a, b, api.ErrThere)
				continue
			}
			m, err := grid.Crossed(a, b)
			if err != api.OK || len(m) != 1 || len(m[0]) != 1 || field.Mul(m[0][0], byte(x^y)) != 1 {
				t.Errorf("Crossed(%v, %v) = %v, %d", a, b, m, err)
			}
		}
	}
}

func TestP58CrossedOfAllSizes(t *testing.T) {
	next := numbers()
	for rows := 1; rows <= most; rows++ {
		for columns := 1; columns <= most; columns++ {
			for _, l := range [][]byte{rising(0, rows+columns), rising(240, rows+columns), different(rows+columns, next)} {
				a, b := l[:rows], l[rows:]
				checkCrossed(t, a, b, inverses(a, b))
			}
		}
	}
}

// TestP58EveryPartIsInvertible checks all square parts of a few matrices, and
// some of the largest ones.
func TestP58EveryPartIsInvertible(t *testing.T) {
	next := numbers()
	for _, l := range [][]byte{rising(0, 12), rising(250, 12), different(12, next)} {
		m, err := grid.Crossed(l[:6], l[6:])
		if err != api.OK {
			t.Fatalf("Crossed(%v, %v) has error %d", l[:6], l[6:], err)
		}
		for count := 1; count <= 6; count++ {
			for _, rows := range subsets(6, count) {
				for _, columns := range subsets(6, count) {
					checkInvertible(t, part(m, rows, columns))
				}
			}
		}
	}
	for count := 1; count <= most; count++ {
		all := subsets(most, count)
		for range 100 {
			l := different(2*most, next)
			m, err := grid.Crossed(l[:most], l[most:])
			if err != api.OK {
				t.Fatalf("Crossed(%v, %v) has error %d", l[:most], l[most:], err)
			}
			checkInvertible(t, part(m, all[next(len(all))], all[next(len(all))]))
		}
	}
}

func TestP58Errors(t *testing.T) {
	for _, w := range wrongs() {
		for _, l := range rights() {
			checkNotCrossed(t, w.l, l, w.err)
			checkNotCrossed(t, l, w.l, w.err)
		}
		// What is wrong with a goes before what is wrong with b.
		for _, v := range wrongs() {
			checkNotCrossed(t, w.l, v.l, w.err)
		}
	}
}

func TestP58BytesInBoth(t *testing.T) {
	next := numbers()
	for _, l := range rights() {
		checkNotCrossed(t, l, l, api.ErrThere)
		checkNotCrossed(t, l, l[:1], api.ErrThere)
		checkNotCrossed(t, l[len(l)-1:], l, api.ErrThere)
	}
	for rows := 1; rows <= most; rows++ {
		for columns := 1; columns <= most; columns++ {
			for i := range rows {
				for j := range columns {
					l := different(rows+columns, next)
					a, b := l[:rows], l[rows:]
					b[j] = a[i]
					checkNotCrossed(t, a, b, api.ErrThere)
				}
			}
		}
	}
}
