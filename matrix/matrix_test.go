package matrix_test

import (
	"slices"
	"testing"

	"wholemend/api"
	"wholemend/field"
	"wholemend/matrix"
)

const most = api.MaxSide

// wrong is a list of rows that Check does not allow.
type wrong struct {
	m   [][]byte
	err api.Errno
}

// numbers returns a function for numbers from 0 to below - 1, always the same.
func numbers() func(below int) int {
	seed := uint32(1)
	return func(below int) int {
		seed = seed*1664525 + 1013904223
		return int(seed>>8) % below
	}
}

// filled returns a matrix with the byte everywhere.
func filled(rows, columns int, b byte) [][]byte {
	m := make([][]byte, rows)
	for i := range m {
		m[i] = slices.Repeat([]byte{b}, columns)
	}
	return m
}

// someOf returns a matrix with some bytes below the bound.
func someOf(rows, columns, below int, next func(below int) int) [][]byte {
	m := filled(rows, columns, 0)
	for _, row := range m {
		for j := range row {
			row[j] = byte(next(below))
		}
	}
	return m
}

// someBytes returns a vector with some bytes.
func someBytes(count int, next func(below int) int) []byte {
	return someOf(1, count, 256, next)[0]
}

// unit returns the square matrix with 1 from its first corner to its last, and
// 0 elsewhere.
func unit(n int) [][]byte {
	m := filled(n, n, 0)
	for i := range m {
		m[i][i] = 1
	}
	return m
}

// cloned returns the same matrix in other memory.
func cloned(m [][]byte) [][]byte {
	all := make([][]byte, len(m))
	for i, row := range m {
		all[i] = slices.Clone(row)
	}
	return all
}

// same tells whether two matrices are equal.
func same(a, b [][]byte) bool {
	return slices.EqualFunc(a, b, func(x, y []byte) bool { return slices.Equal(x, y) })
}

// times returns the matrix product, entry by entry.
func times(a, b [][]byte) [][]byte {
	product := filled(len(a), len(b[0]), 0)
	for i := range product {
		for j := range product[i] {
			for k := range b {
				product[i][j] ^= field.Mul(a[i][k], b[k][j])
			}
		}
	}
	return product
}

// applied returns the product of a matrix and a vector.
func applied(m [][]byte, x []byte) []byte {
	b := make([]byte, len(m))
	for i, row := range m {
		for j, c := range row {
			b[i] ^= field.Mul(c, x[j])
		}
	}
	return b
}

// determinant adds up the products of Leibniz's formula, which have no signs
// here: sums[s] is that of the first rows and of the columns in the set s.
func determinant(m [][]byte) byte {
	sums := make([]byte, 1<<len(m))
	sums[0] = 1
	for s := 1; s < len(sums); s++ {
		row := -1
		for j := range m {
			row += s >> j & 1
		}
		for j := range m {
			if s>>j&1 == 1 {
				sums[s] ^= field.Mul(m[row][j], sums[s&^(1<<j)])
			}
		}
	}
	return sums[len(sums)-1]
}

// subsets returns all increasing lists of so many numbers below n.
func subsets(n, count int) [][]int {
	var all [][]int
	for s := range 1 << n {
		var l []int
		for i := range n {
			if s>>i&1 == 1 {
				l = append(l, i)
			}
		}
		if len(l) == count {
			all = append(all, l)
		}
	}
	return all
}

// rankByMinors returns how many rows the largest square part has whose
// determinant is not 0.
func rankByMinors(m [][]byte) int {
	for count := min(len(m), len(m[0])); count > 0; count-- {
		for _, rows := range subsets(len(m), count) {
			for _, columns := range subsets(len(m[0]), count) {
				part := filled(count, count, 0)
				for i, row := range rows {
					for j, column := range columns {
						part[i][j] = m[row][column]
					}
				}
				if determinant(part) != 0 {
					return count
				}
			}
		}
	}
	return 0
}

// regular returns some square matrix, and its determinant, which is not 0.
func regular(n int, next func(below int) int) ([][]byte, byte) {
	low, high, order, det := unit(n), unit(n), unit(n), byte(1)
	for i := range n {
		for j := range i {
			low[i][j] = byte(next(256))
			high[j][i] = byte(next(256))
		}
		high[i][i] = byte(1 + next(255))
		det = field.Mul(det, high[i][i])
		j := next(i + 1)
		order[i], order[j] = order[j], order[i]
	}
	return times(order, times(low, high)), det
}

// ofRank returns some matrix m of the rank, and a regular one, left: the product
// of left and a vector is that of m and some vector just if the elements of the
// first vector are 0 from number rank on.
func ofRank(rows, columns, rank int, next func(below int) int) (m, left [][]byte) {
	left, _ = regular(rows, next)
	right, _ := regular(columns, next)
	middle := filled(rows, columns, 0)
	for i := range rank {
		middle[i][i] = 1
	}
	return times(left, times(middle, right)), left
}

// eachSize visits all sizes that a matrix may have.
func eachSize(visit func(rows, columns int)) {
	for rows := 1; rows <= most; rows++ {
		for columns := 1; columns <= most; columns++ {
			visit(rows, columns)
		}
	}
}

// matrices are some that all functions but Det and Inverse allow.
func matrices() [][][]byte {
	next := numbers()
	all := [][][]byte{
		{{0}}, {{1}}, {{2}}, {{255}}, {{1, 1}, {1, 2}}, {{1, 2}, {3, 4}}, {{0, 1}, {1, 0}}, {{1, 2}, {2, 4}},
		{{0, 0, 1}, {0, 0, 2}}, {{0, 1}, {0, 2}, {3, 0}}, {{0, 0}, {0, 0}, {1, 0}}, {{1, 2, 3}}, {{1}, {2}, {3}},
	}
	for _, n := range []int{1, 2, 5, most} {
		m, _ := regular(n, next)
		all = append(all, m, unit(n), filled(n, n, 0), filled(n, n, 255), someOf(n, n, 2, next))
	}
	for _, size := range [][2]int{{1, most}, {most, 1}, {2, 5}, {5, 2}, {5, most}, {most, 5}, {most - 1, most}, {most, most - 1}} {
		low, _ := ofRank(size[0], size[1], 1+min(size[0], size[1])/2, next)
		all = append(all, low, someOf(size[0], size[1], 256, next), someOf(size[0], size[1], 2, next))
	}
	return all
}

// wrongs are lists that are no matrix, with what is wrong first.
func wrongs() []wrong {
	all := []wrong{
		{nil, api.ErrLarge},
		{[][]byte{}, api.ErrLarge},
		{[][]byte{nil}, api.ErrLarge},
		{[][]byte{{}}, api.ErrLarge},
		{[][]byte{{}, {}}, api.ErrLarge},
		{[][]byte{nil, {1}}, api.ErrLarge},
		{[][]byte{{}, {1, 2}, {3}}, api.ErrLarge},
		{[][]byte{{1}, {}}, api.ErrForm},
		{[][]byte{{1}, nil}, api.ErrForm},
		{[][]byte{{1}, {1, 2}}, api.ErrForm},
		{[][]byte{{1, 2}, {1}}, api.ErrForm},
		{[][]byte{{1, 2}, {3, 4}, {5}}, api.ErrForm},
		{[][]byte{{1, 2}, {3, 4, 5}, {6, 7}}, api.ErrForm},
		{[][]byte{{1}, slices.Repeat([]byte{1}, most+1)}, api.ErrForm},
		{[][]byte{{1}, slices.Repeat([]byte{1}, 1000)}, api.ErrForm},
		{[][]byte{slices.Repeat([]byte{1}, most+1), {1}}, api.ErrLarge},
		// Too many rows go before rows of another length.
		{append(filled(most, 1, 1), nil), api.ErrLarge},
		{append(filled(most, 1, 1), []byte{1, 2}), api.ErrLarge},
		{append(filled(most, most, 1), slices.Repeat([]byte{1}, most+1)), api.ErrLarge},
		{make([][]byte, most), api.ErrLarge},
		{make([][]byte, most+1), api.ErrLarge},
		{make([][]byte, 1000), api.ErrLarge},
		{filled(1000, 1, 1), api.ErrLarge},
		{filled(1, 1000, 1), api.ErrLarge},
	}
	for _, rows := range []int{1, most, most + 1, 256 + most} {
		for _, columns := range []int{0, 1, most, most + 1, 256 + most} {
			if rows > most || columns == 0 || columns > most {
				all = append(all, wrong{filled(rows, columns, 1), api.ErrLarge})
			}
		}
	}
	for _, n := range []int{2, 3, most} {
		for place := 1; place < n; place++ {
			for _, length := range []int{0, n - 1, n + 1, 256 + n} {
				m := unit(n)
				m[place] = make([]byte, length)
				all = append(all, wrong{m, api.ErrForm})
			}
		}
	}
	return all
}

// lists are those above, right and wrong.
func lists() [][][]byte {
	all := matrices()
	for _, w := range wrongs() {
		all = append(all, w.m)
	}
	return all
}

// vectors are some of every length up to one too many.
func vectors() [][]byte {
	next := numbers()
	all := [][]byte{nil, slices.Repeat([]byte{1}, 1000)}
	for count := range most + 2 {
		all = append(all, make([]byte, count), someBytes(count, next))
	}
	return all
}

// result of a call.
type result struct {
	rows [][]byte
	list []byte
	num  int
	err  api.Errno
}

// equal tells whether two results are the same.
func (r result) equal(s result) bool {
	return same(r.rows, s.rows) && slices.Equal(r.list, s.list) && r.num == s.num && r.err == s.err
}

// call is one of a function, with its arguments.
type call struct {
	name string
	a, b [][]byte
	v    []byte
}

// do returns what the function returns.
func (c call) do() result {
	var r result
	switch c.name {
	case "Check":
		r.err = matrix.Check(c.a)
	case "Mul":
		r.rows, r.err = matrix.Mul(c.a, c.b)
	case "Rank":
		r.num, r.err = matrix.Rank(c.a)
	case "Det":
		d, err := matrix.Det(c.a)
		r.num, r.err = int(d), err
	case "Inverse":
		r.rows, r.err = matrix.Inverse(c.a)
	case "Solve":
		r.list, r.err = matrix.Solve(c.a, c.v)
	}
	return r
}

// calls are those of all functions with the arguments above.
func calls() []call {
	var all []call
	for _, a := range lists() {
		for _, name := range []string{"Check", "Rank", "Det", "Inverse"} {
			all = append(all, call{name: name, a: a})
		}
		for _, b := range lists() {
			all = append(all, call{name: "Mul", a: a, b: b})
		}
		for _, v := range vectors() {
			all = append(all, call{name: "Solve", a: a, v: v})
		}
	}
	return all
}

// results are those of the functions that return slices.
func results() []call {
	next := numbers()
	var all []call
	eachSize(func(rows, columns int) {
		m := someOf(rows, columns, 256, next)
		all = append(all, call{name: "Mul", a: m, b: unit(columns)}, call{name: "Mul", a: unit(rows), b: m},
			call{name: "Solve", a: m, v: applied(m, someBytes(columns, next))})
	})
	for n := 1; n <= most; n++ {
		m, _ := regular(n, next)
		all = append(all, call{name: "Inverse", a: m}, call{name: "Inverse", a: unit(n)},
			call{name: "Solve", a: unit(n), v: someBytes(n, next)})
	}
	return all
}

func TestP1NoArgumentPanics(t *testing.T) {
	for _, c := range calls() {
		func() {
			defer func() {
				if r := recover(); r != nil {
					t.Errorf("%s of %v, %v, %v panics: %v", c.name, c.a, c.b, c.v, r)
				}
			}()
			c.do()
		}()
	}
}

func TestP2ResultsDependOnlyOnArguments(t *testing.T) {
	all := calls()
	first := make([]result, len(all))
	for i, c := range all {
		first[i] = c.do()
	}
	check := func(i int) {
		if again := all[i].do(); !again.equal(first[i]) {
			c := all[i]
			t.Errorf("%s of %v, %v, %v: first %v, then %v", c.name, c.a, c.b, c.v, first[i], again)
		}
	}
	for i := range all {
		check(i)
	}
	// Nor does it count which calls come before.
	for i := range slices.Backward(all) {
		check(i)
	}
}

func TestP2OtherResultsAreZeroWithAnError(t *testing.T) {
	for _, c := range calls() {
		if r := c.do(); r.err != api.OK && (len(r.rows) != 0 || len(r.list) != 0 || r.num != 0) {
			t.Errorf("%s of %v, %v, %v = %v with an error", c.name, c.a, c.b, c.v, r)
		}
	}
}

// roomy returns the same matrix in slices that have more behind their lengths.
func roomy(m [][]byte) [][]byte {
	all := make([][]byte, 0, len(m)+2)
	for _, row := range m {
		all = append(all, append(slices.Clone(row), 5, 6, 7)[:len(row)])
	}
	return append(all, []byte{8, 9}, []byte{10})[:len(m)]
}

// whole returns all of a matrix, with what lies behind the lengths.
func whole(m [][]byte) [][]byte {
	all := slices.Clone(m[:cap(m)])
	for i, row := range all {
		all[i] = slices.Clone(row[:cap(row)])
	}
	return all
}

func TestP2ArgumentsStayAsTheyAre(t *testing.T) {
	for _, c := range calls() {
		c.a, c.b = roomy(c.a), roomy(c.b)
		c.v = append(slices.Clone(c.v), 5, 6, 7)[:len(c.v)]
		a, b, v := whole(c.a), whole(c.b), slices.Clone(c.v[:cap(c.v)])
		c.do()
		if !same(whole(c.a), a) || !same(whole(c.b), b) || !slices.Equal(c.v[:cap(c.v)], v) {
			t.Errorf("%s changes its arguments %v, %v, %v", c.name, a, b, v)
		}
	}
}

// TestP2RowsMayShareMemory checks that no row is taken for another one, where
// one slice is several rows, and where the rows lie behind one another.
func TestP2RowsMayShareMemory(t *testing.T) {
	next := numbers()
	eachSize(func(rows, columns int) {
		row := someBytes(columns, next)
		equal := slices.Repeat([][]byte{row}, rows)
		flat := someBytes(rows*columns, next)
		var behind [][]byte
		for i := range rows {
			behind = append(behind, flat[i*columns:(i+1)*columns])
		}
		for _, m := range [][][]byte{equal, behind} {
			want := cloned(m)
			v := applied(m, someBytes(columns, next))
			for _, c := range []call{
				{name: "Check"}, {name: "Rank"}, {name: "Det"}, {name: "Inverse"},
				{name: "Mul", b: unit(columns)}, {name: "Solve", v: v}, {name: "Solve", v: m[0][:min(rows, columns)]},
			} {
				c.a = m
				got := c.do()
				if !same(m, want) {
					t.Fatalf("%s changes its argument %v", c.name, want)
				}
				c.a = cloned(m)
				c.v = slices.Clone(c.v)
				if apart := c.do(); !got.equal(apart) {
					t.Fatalf("%s of %v = %v, but %v in memory of its own", c.name, want, got, apart)
				}
			}
		}
	})
	m, _ := regular(most, next)
	if got, err := matrix.Mul(m, m); err != api.OK || !same(got, times(m, m)) {
		t.Errorf("Mul of %v and itself = %v, %d", m, got, err)
	}
}

// spoil writes to all memory behind a result.
func spoil(r result) {
	for _, row := range r.rows {
		spoil(result{list: row})
	}
	r.rows = r.rows[:cap(r.rows)]
	for i := range r.rows {
		r.rows[i] = nil
	}
	r.list = r.list[:cap(r.list)]
	for i := range r.list {
		r.list[i] ^= 0xa5
	}
}

func TestP2ResultsAreNewMemory(t *testing.T) {
	for _, c := range results() {
		first, second := c.do(), c.do()
		if first.err != api.OK {
			t.Fatalf("%s of %v, %v, %v has error %d", c.name, c.a, c.b, c.v, first.err)
		}
		rows, list := cloned(second.rows), slices.Clone(second.list)
		a, b, v := cloned(c.a), cloned(c.b), slices.Clone(c.v)
		spoil(first)
		if !same(c.a, a) || !same(c.b, b) || !slices.Equal(c.v, v) {
			t.Fatalf("%s shares its result with an argument", c.name)
		}
		if !same(second.rows, rows) || !slices.Equal(second.list, list) {
			t.Fatalf("%s shares its result with another one", c.name)
		}
		if third := c.do(); !same(third.rows, rows) || !slices.Equal(third.list, list) {
			t.Fatalf("%s keeps its result", c.name)
		}
	}
}

func TestP2RowsOfResultsShareNoMemory(t *testing.T) {
	for _, c := range results() {
		rows := c.do().rows
		for i := range rows {
			want := cloned(rows)
			want[i] = nil
			spoil(result{list: rows[i]})
			rows[i] = nil
			if !same(rows, want) {
				t.Fatalf("%s returns row %d in the memory of another one", c.name, i)
			}
		}
	}
}

func checkCheck(t *testing.T, m [][]byte, want api.Errno) {
	t.Helper()
	if err := matrix.Check(m); err != want {
		t.Errorf("Check(%v) = %d, want %d", m, err, want)
	}
}

func TestP51Check(t *testing.T) {
	for _, m := range matrices() {
		checkCheck(t, m, api.OK)
	}
	for rows := range most + 4 {
		for columns := range most + 4 {
			want := api.OK
			if rows < 1 || rows > most || columns < 1 || columns > most {
				want = api.ErrLarge
			}
			for _, b := range []byte{0, 1, 255} {
				checkCheck(t, filled(rows, columns, b), want)
			}
		}
	}
}

func TestP51RowsOfAnotherLength(t *testing.T) {
	eachSize(func(rows, columns int) {
		for place := 1; place < rows; place++ {
			for length := range most + 4 {
				m := filled(rows, columns, 1)
				m[place] = make([]byte, length)
				want := api.OK
				if length != columns {
					want = api.ErrForm
				}
				checkCheck(t, m, want)
			}
		}
	})
}

func TestP51Errors(t *testing.T) {
	for _, w := range wrongs() {
		checkCheck(t, w.m, w.err)
	}
}

func checkMul(t *testing.T, a, b, want [][]byte) {
	t.Helper()
	if got, err := matrix.Mul(a, b); err != api.OK || !same(got, want) {
		t.Errorf("Mul(%v, %v) = %v, %d, want %v", a, b, got, err, want)
	}
}

func TestP52Mul(t *testing.T) {
	for _, c := range []struct{ a, b, want [][]byte }{
		{[][]byte{{2}}, [][]byte{{128}}, [][]byte{{29}}},
		{[][]byte{{0}}, [][]byte{{255}}, [][]byte{{0}}},
		{[][]byte{{1, 2}, {3, 4}}, [][]byte{{1}, {1}}, [][]byte{{3}, {7}}},
		{[][]byte{{1, 1}}, [][]byte{{1, 2}, {3, 4}}, [][]byte{{2, 6}}},
		{[][]byte{{1, 2}, {3, 4}}, [][]byte{{0, 1}, {1, 0}}, [][]byte{{2, 1}, {4, 3}}},
		{[][]byte{{0, 1}, {1, 0}}, [][]byte{{1, 2}, {3, 4}}, [][]byte{{3, 4}, {1, 2}}},
		{[][]byte{{1}, {2}, {3}}, [][]byte{{1, 128}}, [][]byte{{1, 128}, {2, 29}, {3, 157}}},
		{[][]byte{{1, 128}}, [][]byte{{1}, {2}}, [][]byte{{28}}},
		{[][]byte{{1, 1}}, [][]byte{{5}, {5}}, [][]byte{{0}}},
		{[][]byte{{1, 1}, {1, 2}}, [][]byte{{1, 1}, {1, 2}}, [][]byte{{0, 3}, {3, 5}}},
	} {
		checkMul(t, c.a, c.b, c.want)
	}
}

func TestP52MulOfAllSizes(t *testing.T) {
	next := numbers()
	eachSize(func(rows, columns int) {
		a := someOf(rows, columns, 256, next)
		checkMul(t, a, unit(columns), a)
		checkMul(t, unit(rows), a, a)
		for count := 1; count <= most; count++ {
			b := someOf(columns, count, 256, next)
			checkMul(t, a, b, times(a, b))
			checkMul(t, filled(rows, columns, 0), b, filled(rows, count, 0))
		}
	})
}

func TestP52MulOfAllBytes(t *testing.T) {
	for a := range 256 {
		for b := range 256 {
			a, b := byte(a), byte(b)
			checkMul(t, [][]byte{{a}}, [][]byte{{b}}, [][]byte{{field.Mul(a, b)}})
			checkMul(t, [][]byte{{a, b}}, [][]byte{{1}, {1}}, [][]byte{{a ^ b}})
		}
	}
}

func TestP52Errors(t *testing.T) {
	check := func(a, b [][]byte, want api.Errno) {
		t.Helper()
		if got, err := matrix.Mul(a, b); len(got) != 0 || err != want {
			t.Errorf("Mul(%v, %v) = %v, %d, want error %d", a, b, got, err, want)
		}
	}
	for _, w := range wrongs() {
		for _, m := range matrices() {
			check(w.m, m, w.err)
			check(m, w.m, w.err)
		}
		for _, v := range wrongs() {
			check(w.m, v.m, w.err)
		}
	}
	eachSize(func(rows, columns int) {
		a := filled(rows, columns, 1)
		eachSize(func(rows, count int) {
			if rows != columns {
				check(a, filled(rows, count, 1), api.ErrForm)
			}
		})
	})
}

func checkRank(t *testing.T, m [][]byte, want int) {
	t.Helper()
	if rank, err := matrix.Rank(m); err != api.OK || rank != want {
		t.Errorf("Rank(%v) = %d, %d, want %d", m, rank, err, want)
	}
}

func TestP53Rank(t *testing.T) {
	for _, c := range []struct {
		m    [][]byte
		want int
	}{
		{[][]byte{{1, 1}, {1, 2}}, 2},
		{[][]byte{{0}}, 0},
		{[][]byte{{7}}, 1},
		{[][]byte{{0, 0, 9}}, 1},
		{[][]byte{{0}, {0}, {9}}, 1},
		{[][]byte{{1, 2}, {2, 4}, {0, 0}}, 1},
		{[][]byte{{1, 2}, {2, 5}, {0, 0}}, 2},
		{[][]byte{{0, 1}, {0, 2}, {3, 0}}, 2},
		{[][]byte{{128, 1}, {29, 2}}, 1},
		// Each is the sum of the two others.
		{[][]byte{{1, 0, 1}, {0, 1, 1}, {1, 1, 0}}, 2},
		{[][]byte{{1, 2, 3, 4}, {5, 6, 7, 8}, {4, 4, 4, 12}}, 2},
		{[][]byte{{0, 0, 0, 1}, {0, 0, 1, 0}, {0, 1, 0, 0}}, 3},
		{[][]byte{{0, 0, 1, 0}, {0, 0, 2, 0}, {0, 0, 3, 1}}, 2},
	} {
		checkRank(t, c.m, c.want)
	}
}

func TestP53RankOfAllSizes(t *testing.T) {
	next := numbers()
	eachSize(func(rows, columns int) {
		checkRank(t, filled(rows, columns, 0), 0)
		checkRank(t, filled(rows, columns, 255), 1)
		for rank := range min(rows, columns) + 1 {
			m, _ := ofRank(rows, columns, rank, next)
			checkRank(t, m, rank)
			// A row between the others changes nothing if it is 0 or one of them.
			if rows > 1 && rank < rows {
				m, _ = ofRank(rows-1, columns, rank, next)
				place := next(rows)
				checkRank(t, slices.Insert(cloned(m), place, make([]byte, columns)), rank)
				checkRank(t, slices.Insert(cloned(m), place, m[next(rows-1)]), rank)
			}
		}
	})
}

func TestP53RankOfSmallMatrices(t *testing.T) {
	for _, c := range []struct{ rows, columns, below int }{
		{1, 1, 256}, {1, 2, 16}, {2, 1, 16}, {2, 2, 8}, {2, 3, 4}, {3, 2, 4}, {3, 3, 3}, {3, 4, 2}, {4, 3, 2}, {4, 4, 2},
	} {
		count := 1
		for range c.rows * c.columns {
			count *= c.below
		}
		for place := range count {
			m := filled(c.rows, c.columns, 0)
			for _, row := range m {
				for j := range row {
					row[j] = byte(place % c.below)
					place /= c.below
				}
			}
			checkRank(t, m, rankByMinors(m))
		}
	}
}

func TestP53RankOfSparseMatrices(t *testing.T) {
	next := numbers()
	for range 3000 {
		m := filled(1+next(6), 1+next(6), 0)
		for range next(10) {
			m[next(len(m))][next(len(m[0]))] = byte(1 + next(255))
		}
		checkRank(t, m, rankByMinors(m))
	}
}

func TestP53Errors(t *testing.T) {
	for _, w := range wrongs() {
		if rank, err := matrix.Rank(w.m); rank != 0 || err != w.err {
			t.Errorf("Rank(%v) = %d, %d, want error %d", w.m, rank, err, w.err)
		}
	}
}

func checkDet(t *testing.T, m [][]byte, want byte) {
	t.Helper()
	if det, err := matrix.Det(m); err != api.OK || det != want {
		t.Errorf("Det(%v) = %d, %d, want %d", m, det, err, want)
	}
}

func TestP54Det(t *testing.T) {
	for _, c := range []struct {
		m    [][]byte
		want byte
	}{
		{[][]byte{{1, 1}, {1, 2}}, 3},
		{[][]byte{{1, 2}, {3, 4}}, 2},
		{[][]byte{{0, 1}, {1, 0}}, 1},
		{[][]byte{{0, 2}, {128, 0}}, 29},
		{[][]byte{{0, 2}, {128, 255}}, 29},
		{[][]byte{{2, 0}, {0, 128}}, 29},
		{[][]byte{{1, 2}, {2, 4}}, 0},
		{[][]byte{{0, 0}, {0, 0}}, 0},
		{[][]byte{{0, 1}, {0, 2}}, 0},
		{[][]byte{{1, 0, 1}, {0, 1, 1}, {1, 1, 0}}, 0},
		{[][]byte{{0, 1, 0}, {0, 0, 1}, {1, 0, 0}}, 1},
		{[][]byte{{0, 2, 0}, {0, 0, 3}, {7, 0, 0}}, 18},
		{[][]byte{{1, 1, 1}, {1, 2, 4}, {1, 3, 5}}, 6},
	} {
		checkDet(t, c.m, c.want)
	}
	for b := range 256 {
		checkDet(t, [][]byte{{byte(b)}}, byte(b))
	}
}

func TestP54DetOfAllSizes(t *testing.T) {
	next := numbers()
	for n := 1; n <= most; n++ {
		checkDet(t, unit(n), 1)
		checkDet(t, filled(n, n, 0), 0)
		for _, below := range []int{2, 3, 256} {
			for range 20 {
				m := someOf(n, n, below, next)
				checkDet(t, m, determinant(m))
			}
		}
		for range 20 {
			m, det := regular(n, next)
			checkDet(t, m, det)
			// Most of its entries are 0, so that rows must change places.
			m = filled(n, n, 0)
			for i, j := range permutation(n, next) {
				m[i][j] = byte(1 + next(255))
				m[next(n)][next(n)] = byte(next(256))
			}
			checkDet(t, m, determinant(m))
		}
		for rank := range n {
			m, _ := ofRank(n, n, rank, next)
			checkDet(t, m, 0)
		}
	}
}

// permutation returns the numbers below n in some order.
func permutation(n int, next func(below int) int) []int {
	all := make([]int, n)
	for i := range all {
		j := next(i + 1)
		all[i], all[j] = all[j], i
	}
	return all
}

// notSquare visits all sizes that Det and Inverse do not allow.
func notSquare(visit func(m [][]byte)) {
	next := numbers()
	eachSize(func(rows, columns int) {
		if rows != columns {
			visit(filled(rows, columns, 0))
			visit(someOf(rows, columns, 256, next))
		}
	})
}

func TestP54Errors(t *testing.T) {
	check := func(m [][]byte, want api.Errno) {
		t.Helper()
		if det, err := matrix.Det(m); det != 0 || err != want {
			t.Errorf("Det(%v) = %d, %d, want error %d", m, det, err, want)
		}
	}
	for _, w := range wrongs() {
		check(w.m, w.err)
	}
	notSquare(func(m [][]byte) { check(m, api.ErrForm) })
}

func TestP55Inverse(t *testing.T) {
	for _, c := range []struct{ m, want [][]byte }{
		{[][]byte{{1}}, [][]byte{{1}}},
		{[][]byte{{2}}, [][]byte{{142}}},
		{[][]byte{{0, 1}, {1, 1}}, [][]byte{{1, 1}, {1, 0}}},
		{[][]byte{{0, 1}, {1, 0}}, [][]byte{{0, 1}, {1, 0}}},
		{[][]byte{{0, 2}, {1, 0}}, [][]byte{{0, 1}, {142, 0}}},
		{[][]byte{{1, 2}, {0, 1}}, [][]byte{{1, 2}, {0, 1}}},
		{[][]byte{{1, 1}, {1, 2}}, [][]byte{{245, 244}, {244, 244}}},
		{[][]byte{{1, 2}, {3, 4}}, [][]byte{{2, 1}, {143, 142}}},
		{[][]byte{{0, 1, 0}, {0, 0, 1}, {1, 0, 0}}, [][]byte{{0, 0, 1}, {1, 0, 0}, {0, 1, 0}}},
	} {
		if got, err := matrix.Inverse(c.m); err != api.OK || !same(got, c.want) {
			t.Errorf("Inverse(%v) = %v, %d, want %v", c.m, got, err, c.want)
		}
	}
}

// checkInverse checks what only the inverse of m has.
func checkInverse(t *testing.T, m [][]byte) {
	t.Helper()
	got, err := matrix.Inverse(m)
	if err != api.OK || matrix.Check(got) != api.OK || len(got) != len(m) || len(got[0]) != len(m) {
		t.Fatalf("Inverse(%v) = %v, %d", m, got, err)
	}
	if !same(times(m, got), unit(len(m))) || !same(times(got, m), unit(len(m))) {
		t.Errorf("Inverse(%v) = %v, but the products are %v and %v", m, got, times(m, got), times(got, m))
	}
	if again, err := matrix.Inverse(got); err != api.OK || !same(again, m) {
		t.Errorf("Inverse(Inverse(%v)) = %v, %d", m, again, err)
	}
}

func TestP55InverseOfAllSizes(t *testing.T) {
	next := numbers()
	for n := 1; n <= most; n++ {
		checkInverse(t, unit(n))
		for range 40 {
			m, _ := regular(n, next)
			checkInverse(t, m)
		}
		for range 10 {
			m := filled(n, n, 0)
			for i, j := range permutation(n, next) {
				m[i][j] = byte(1 + next(255))
			}
			checkInverse(t, m)
		}
	}
	for b := 1; b < 256; b++ {
		checkInverse(t, [][]byte{{byte(b)}})
	}
}

func TestP55Errors(t *testing.T) {
	check := func(m [][]byte, want api.Errno) {
		t.Helper()
		if got, err := matrix.Inverse(m); len(got) != 0 || err != want {
			t.Errorf("Inverse(%v) = %v, %d, want error %d", m, got, err, want)
		}
	}
	for _, w := range wrongs() {
		check(w.m, w.err)
	}
	// These have the wrong form before they have no inverse.
	notSquare(func(m [][]byte) { check(m, api.ErrForm) })
	next := numbers()
	check([][]byte{{1, 2}, {2, 4}}, api.ErrZero)
	for n := 1; n <= most; n++ {
		check(filled(n, n, 0), api.ErrZero)
		for rank := range n {
			m, _ := ofRank(n, n, rank, next)
			check(m, api.ErrZero)
			m, _ = regular(n, next)
			m[rank] = make([]byte, n)
			check(m, api.ErrZero)
		}
	}
}

// checkSolved checks that the result is a solution.
func checkSolved(t *testing.T, m [][]byte, b []byte) {
	t.Helper()
	x, err := matrix.Solve(m, b)
	if err != api.OK || len(x) != len(m[0]) {
		t.Fatalf("Solve(%v, %v) = %v, %d", m, b, x, err)
	}
	if got := applied(m, x); !slices.Equal(got, b) {
		t.Errorf("Solve(%v, %v) = %v, but the product is %v", m, b, x, got)
	}
}

func checkNotSolved(t *testing.T, m [][]byte, b []byte, want api.Errno) {
	t.Helper()
	if x, err := matrix.Solve(m, b); len(x) != 0 || err != want {
		t.Errorf("Solve(%v, %v) = %v, %d, want error %d", m, b, x, err, want)
	}
}

func TestP56Solve(t *testing.T) {
	// There is just one solution of each.
	for _, c := range []struct {
		m       [][]byte
		b, want []byte
	}{
		{[][]byte{{1}}, []byte{9}, []byte{9}},
		{[][]byte{{2}}, []byte{29}, []byte{128}},
		{[][]byte{{2}}, []byte{0}, []byte{0}},
		{[][]byte{{1, 2}, {0, 1}}, []byte{4, 1}, []byte{6, 1}},
		{[][]byte{{0, 1}, {1, 0}}, []byte{4, 1}, []byte{1, 4}},
		{[][]byte{{1}, {2}, {0}}, []byte{128, 29, 0}, []byte{128}},
		{[][]byte{{0, 0}, {0, 1}, {1, 0}, {1, 1}}, []byte{0, 3, 5, 6}, []byte{5, 3}},
	} {
		if x, err := matrix.Solve(c.m, c.b); err != api.OK || !slices.Equal(x, c.want) {
			t.Errorf("Solve(%v, %v) = %v, %d, want %v", c.m, c.b, x, err, c.want)
		}
	}
	checkSolved(t, [][]byte{{0, 0}, {0, 0}}, []byte{0, 0})
	checkSolved(t, [][]byte{{0, 0, 0, 2}}, []byte{29})
	checkSolved(t, [][]byte{{1, 2, 3}, {2, 4, 6}}, []byte{1, 2})
}

func TestP56NoSolution(t *testing.T) {
	for _, c := range []struct {
		m [][]byte
		b []byte
	}{
		{[][]byte{{0}}, []byte{1}},
		{[][]byte{{1}, {1}}, []byte{4, 1}},
		{[][]byte{{1}, {0}}, []byte{4, 1}},
		{[][]byte{{0}, {1}}, []byte{1, 4}},
		{[][]byte{{0, 0}, {0, 0}}, []byte{0, 255}},
		{[][]byte{{1, 2, 3}, {2, 4, 6}}, []byte{1, 3}},
		{[][]byte{{1, 0, 1}, {0, 1, 1}, {1, 1, 0}}, []byte{1, 2, 4}},
	} {
		checkNotSolved(t, c.m, c.b, api.ErrNone)
	}
}

// TestP56SolveOfAllSizes takes vectors for b that are products with m, and
// others that are none, of matrices of all sizes and ranks.
func TestP56SolveOfAllSizes(t *testing.T) {
	next := numbers()
	eachSize(func(rows, columns int) {
		for rank := range min(rows, columns) + 1 {
			m, left := ofRank(rows, columns, rank, next)
			checkSolved(t, m, make([]byte, rows))
			checkSolved(t, m, applied(m, someBytes(columns, next)))
			part := make([]byte, rows)
			copy(part, someBytes(rank, next))
			checkSolved(t, m, applied(left, part))
			for place := rank; place < rows; place++ {
				part[place] = byte(1 + next(255))
				checkNotSolved(t, m, applied(left, part), api.ErrNone)
				part[place] = 0
			}
		}
	})
}

// TestP56SolveOfSmallMatrices looks for a solution among all vectors of two
// elements.
func TestP56SolveOfSmallMatrices(t *testing.T) {
	next := numbers()
	for range 200 {
		rows := 1 + next(3)
		m := someOf(rows, 2, 3, next)
		b := someOf(1, rows, 3, next)[0]
		found := false
		for x := 0; x < 1<<16 && !found; x++ {
			found = slices.Equal(applied(m, []byte{byte(x), byte(x >> 8)}), b)
		}
		if found {
			checkSolved(t, m, b)
		} else {
			checkNotSolved(t, m, b, api.ErrNone)
		}
	}
}

func TestP56Errors(t *testing.T) {
	for _, w := range wrongs() {
		for _, v := range vectors() {
			checkNotSolved(t, w.m, v, w.err)
		}
	}
	// These have the wrong form before they have no solution.
	eachSize(func(rows, columns int) {
		for _, v := range vectors() {
			if len(v) != rows {
				checkNotSolved(t, filled(rows, columns, 0), v, api.ErrForm)
				checkNotSolved(t, filled(rows, columns, 1), v, api.ErrForm)
			}
		}
		checkNotSolved(t, filled(rows, columns, 0), slices.Repeat([]byte{1}, rows), api.ErrNone)
	})
}
