package reed_test

import (
	"math"
	"math/bits"
	"slices"
	"testing"

	"wholemend/api"
	"wholemend/field"
	"wholemend/grid"
	"wholemend/matrix"
	"wholemend/reed"
)

const most = api.MaxPieces

// badNumbers are no dimension, and no number of bytes, of any code row.
var badNumbers = []int{
	math.MinInt, math.MinInt + 1, math.MinInt32, -(1 << 32) + 1, -api.MaxInt, -65536, -256, -255, -most, -1, 0,
	most + 1, most + 2, 255, 256, 257, 256 + most, 65537, api.MaxInt, math.MaxInt32, 1<<32 + 1, 1<<32 + most, math.MaxInt,
}

// tooMany are more bytes, or cells, than there may be.
var tooMany = []int{most + 1, most + 2, 2 * most, 255, 256, 257, 256 + most, 1000, 1<<16 + 1, 1<<16 + most}

// numbers returns a function for numbers from 0 to below - 1, always the same.
func numbers() func(below int) int {
	seed := uint32(1)
	return func(below int) int {
		seed = seed*1664525 + 1013904223
		return int(seed>>8) % below
	}
}

// anyBytes returns so many bytes.
func anyBytes(count int, next func(below int) int) []byte {
	l := make([]byte, count)
	for i := range l {
		l[i] = byte(next(256))
	}
	return l
}

// codeRow returns the values at 0 to n - 1 of the polynomial with these
// coefficients.
func codeRow(f []byte, n int) []byte {
	row := make([]byte, n)
	for i := range row {
		power := byte(1)
		for _, c := range f {
			row[i] ^= field.Mul(c, power)
			power = field.Mul(power, byte(i))
		}
	}
	return row
}

// cells returns the bytes as cells, of which those are present whose bit is 1.
// Those that are not have some byte that does not count.
func cells(row []byte, present int) []api.Cell {
	l := make([]api.Cell, len(row))
	for i, b := range row {
		l[i] = api.Cell{Has: present>>i&1 == 1, B: b}
		if !l[i].Has {
			l[i].B = b*7 + byte(present) + 1
		}
	}
	return l
}

// all is the set of the first n numbers.
func all(n int) int {
	return 1<<n - 1
}

// anySet returns a set of so many numbers below n.
func anySet(n, count int, next func(below int) int) int {
	set := 0
	for bits.OnesCount(uint(set)) < count {
		set |= 1 << next(n)
	}
	return set
}

// changed returns the row with other bytes at the numbers of a set.
func changed(row []byte, set int, next func(below int) int) []byte {
	row = slices.Clone(row)
	for i := range row {
		if set>>i&1 == 1 {
			row[i] ^= byte(1 + next(255))
		}
	}
	return row
}

// call is one of a function, with its arguments: data and n for Put, and l and
// n for Check and Mend.
type call struct {
	name string
	data []byte
	l    []api.Cell
	n    int
}

// do returns what the function returns.
func (c call) do() ([]byte, api.Errno) {
	switch c.name {
	case "Put":
		return reed.Put(c.data, c.n)
	case "Check":
		return nil, reed.Check(c.l, c.n)
	}
	return reed.Mend(c.l, c.n)
}

// same returns the same call with arguments in other memory.
func (c call) same() call {
	c.data, c.l = slices.Clone(c.data), slices.Clone(c.l)
	return c
}

// results are calls of Put and Mend that have no error, of all sizes.
func results() []call {
	next := numbers()
	var list []call
	for n := 1; n <= most; n++ {
		for k := 1; k <= n; k++ {
			row := codeRow(anyBytes(k, next), n)
			list = append(list, call{name: "Put", data: slices.Clone(row[:k]), n: n})
			for _, count := range []int{k, k + next(n-k+1), n} {
				list = append(list, call{name: "Mend", l: cells(row, anySet(n, count, next)), n: k})
			}
		}
	}
	return list
}

// calls are those above, and others with most kinds of errors.
func calls() []call {
	next := numbers()
	list := results()
	add := func(data []byte, l []api.Cell, n int) {
		list = append(list, call{name: "Put", data: data, n: n},
			call{name: "Check", l: l, n: n}, call{name: "Mend", l: l, n: n})
	}
	for _, n := range append([]int{1, 2, most - 1, most}, badNumbers...) {
		add(nil, nil, n)
		add([]byte{}, []api.Cell{}, n)
		for _, count := range tooMany {
			row := anyBytes(count, next)
			add(row, cells(row, next(1<<24)), n)
		}
		for count := 1; count <= most; count++ {
			row := anyBytes(count, next)
			add(row, cells(row, all(count)), n)
			add(make([]byte, count), make([]api.Cell, count), n)
		}
	}
	for count := 1; count <= most; count++ {
		for n := range most + 3 {
			row := anyBytes(count, next)
			add(row, cells(row, all(count)), n)
			add(row, cells(row, next(1<<count)), n)
		}
	}
	return list
}

func TestP1NoArgumentPanics(t *testing.T) {
	for _, c := range calls() {
		func() {
			defer func() {
				if r := recover(); r != nil {
					t.Errorf("%v panics: %v", c, r)
				}
			}()
			c.do()
		}()
	}
}

func TestP2ResultsDependOnlyOnArguments(t *testing.T) {
	type result struct {
		row []byte
		err api.Errno
	}
	list := calls()
	first := make([]result, len(list))
	for i, c := range list {
		row, err := c.do()
		first[i] = result{row, err}
	}
	check := func(i int) {
		c := list[i]
		if row, err := c.do(); err != first[i].err || !slices.Equal(row, first[i].row) {
			t.Errorf("%v: first %v, then %v, %d", c, first[i], row, err)
		}
	}
	for i := range list {
		check(i)
	}
	// Nor does it count which calls come before.
	for i := range slices.Backward(list) {
		check(i)
	}
}

func TestP2OtherResultsAreZeroWithAnError(t *testing.T) {
	for _, c := range calls() {
		if row, err := c.do(); err != api.OK && len(row) != 0 {
			t.Errorf("%v = %v with error %d", c, row, err)
		}
	}
}

func TestP2ArgumentsStayAsTheyAre(t *testing.T) {
	for _, c := range calls() {
		c.data = append(slices.Clone(c.data), anyBytes(most, numbers())...)[:len(c.data)]
		c.l = append(slices.Clone(c.l), cells(anyBytes(most, numbers()), 0x55555)...)[:len(c.l)]
		data, l := slices.Clone(c.data[:cap(c.data)]), slices.Clone(c.l[:cap(c.l)])
		c.do()
		if !slices.Equal(c.data[:cap(c.data)], data) || !slices.Equal(c.l[:cap(c.l)], l) {
			t.Errorf("%s changes its arguments %v, %v", c.name, data, l)
		}
	}
}

// spoil writes to all memory behind a row.
func spoil(row []byte) {
	row = row[:cap(row)]
	for i := range row {
		row[i] ^= 0xa5
	}
}

func TestP2ResultsAreNewMemory(t *testing.T) {
	for _, c := range results() {
		first, err := c.do()
		second, _ := c.do()
		if err != api.OK || len(first) == 0 {
			t.Fatalf("%v = %v, %d", c, first, err)
		}
		want, before := slices.Clone(second), c.same()
		spoil(first)
		if !slices.Equal(c.data, before.data) || !slices.Equal(c.l, before.l) {
			t.Fatalf("%s shares its result with an argument", c.name)
		}
		if !slices.Equal(second, want) {
			t.Fatalf("%s shares its result with another one", c.name)
		}
		if third, _ := c.do(); !slices.Equal(third, want) {
			t.Fatalf("%s keeps its result", c.name)
		}
	}
}

// TestP2ResultOfPutIsNotItsArgument gives Put memory for more bytes than n.
func TestP2ResultOfPutIsNotItsArgument(t *testing.T) {
	for k := 1; k <= most; k++ {
		for n := k; n <= most; n++ {
			data := make([]byte, k, 2*most)
			before := slices.Clone(data[:cap(data)])
			row, err := reed.Put(data, n)
			spoil(row)
			if err != api.OK || len(row) != n || !slices.Equal(data[:cap(data)], before) {
				t.Errorf("Put(%v, %d), error %d, shares its result with its argument", data, n, err)
			}
		}
	}
}

// TestP2ArgumentsAreNotRetained writes other bytes to the memory of arguments
// that an earlier call had.
func TestP2ArgumentsAreNotRetained(t *testing.T) {
	for _, c := range results() {
		c = c.same()
		first, _ := c.do()
		want := slices.Clone(first)
		for i := range c.data {
			c.data[i] ^= 0x5a
		}
		for i := range c.l {
			// A sum with the same byte everywhere is a code row again.
			c.l[i].B ^= 0x5a
		}
		if !slices.Equal(first, want) {
			t.Fatalf("%s returns memory of its arguments", c.name)
		}
		got, err := c.do()
		if apart, other := c.same().do(); err != api.OK || other != api.OK || !slices.Equal(got, apart) {
			t.Fatalf("%v = %v, %d, but %v, %d in other memory", c, got, err, apart, other)
		}
	}
}

func checkPut(t *testing.T, data []byte, want []byte) {
	t.Helper()
	if row, err := reed.Put(data, len(want)); err != api.OK || !slices.Equal(row, want) {
		t.Errorf("Put(%v, %d) = %v, %d, want %v", data, len(want), row, err, want)
	}
}

func checkNoPut(t *testing.T, data []byte, n int, want api.Errno) {
	t.Helper()
	if row, err := reed.Put(data, n); len(row) != 0 || err != want {
		t.Errorf("Put(%v, %d) = %v, %d, want error %d", data, n, row, err, want)
	}
}

// Code rows worked out by hand, with as many bytes as there may be: the sums of
// each point and 7, and the squares of the points.
var (
	sums    = []byte{7, 6, 5, 4, 3, 2, 1, 0, 15, 14, 13, 12, 11, 10, 9, 8, 23, 22, 21, 20}
	squares = []byte{0, 1, 4, 5, 16, 17, 20, 21, 64, 65, 68, 69, 80, 81, 84, 85, 29, 28, 25, 24}
)

func TestP70Put(t *testing.T) {
	for _, c := range []struct{ data, want []byte }{
		{[]byte{0}, []byte{0}},
		{[]byte{9}, []byte{9}},
		{[]byte{9}, []byte{9, 9}},
		{[]byte{255}, slices.Repeat([]byte{255}, most)},
		{[]byte{5, 7}, []byte{5, 7}},
		{[]byte{5, 7}, []byte{5, 7, 1}},
		{[]byte{5, 7}, []byte{5, 7, 1, 3}},
		{[]byte{7, 5}, []byte{7, 5, 3, 1}},
		{[]byte{0, 1}, []byte{0, 1, 2, 3, 4, 5, 6, 7, 8, 9, 10, 11, 12, 13, 14, 15, 16, 17, 18, 19}},
		{[]byte{0, 128}, []byte{0, 128, 29, 157, 58}},
		{[]byte{7, 6}, sums},
		{[]byte{7, 6, 5}, sums},
		{[]byte{7, 6, 5, 4, 3}, sums},
		{squares[:3], squares},
		{squares[:4], squares},
		{squares[:most-1], squares},
		{squares, squares},
		{[]byte{0, 0, 0}, make([]byte, most)},
		{[]byte{1, 2, 3}, []byte{1, 2, 3, 0}},
		{[]byte{200, 100, 50, 25}, []byte{200, 100, 50, 25}},
	} {
		checkPut(t, c.data, c.want)
	}
}

// TestP70PutOfAllSmallPolynomials makes all code rows of dimensions 1 and 2.
func TestP70PutOfAllSmallPolynomials(t *testing.T) {
	for a := range 256 {
		for n := 1; n <= most; n++ {
			checkPut(t, []byte{byte(a)}, codeRow([]byte{byte(a)}, n))
		}
		for b := range 256 {
			row := codeRow([]byte{byte(a), byte(b)}, most)
			checkPut(t, row[:2], row)
		}
	}
}

// polynomials are some with k coefficients.
func polynomials(k int, next func(below int) int) [][]byte {
	list := [][]byte{make([]byte, k), slices.Repeat([]byte{255}, k)}
	for j := range k {
		// The last coefficients may be 0.
		for _, c := range []byte{1, 2, 142, 255} {
			single := make([]byte, k)
			single[j] = c
			list = append(list, single)
		}
		list = append(list, append(anyBytes(j, next), make([]byte, k-j)...))
	}
	for range 30 {
		list = append(list, anyBytes(k, next))
	}
	return list
}

func TestP70PutOfAllSizes(t *testing.T) {
	next := numbers()
	for k := 1; k <= most; k++ {
		for _, f := range polynomials(k, next) {
			for n := k; n <= most; n++ {
				row := codeRow(f, n)
				checkPut(t, row[:k], row)
			}
		}
	}
}

// TestP70RowIsOfAPolynomial looks for the coefficients by a system of equations.
func TestP70RowIsOfAPolynomial(t *testing.T) {
	next := numbers()
	for k := 1; k <= api.MaxSide; k++ {
		m := powersOf(t, all(k), k)
		for n := k; n <= most; n++ {
			data := anyBytes(k, next)
			f, err := matrix.Solve(m, data)
			if err != api.OK {
				t.Fatalf("Solve(%v, %v) has error %d", m, data, err)
			}
			checkPut(t, data, codeRow(f, n))
		}
	}
}

// TestP70RowHasAllPowers compares with the sum that the chapter gives.
func TestP70RowHasAllPowers(t *testing.T) {
	next := numbers()
	for n := 1; n <= most; n++ {
		for k := 1; k <= n; k++ {
			f, row := anyBytes(k, next), make([]byte, n)
			for i := range row {
				for j, c := range f {
					power, err := field.Pow(byte(i), j)
					if err != api.OK {
						t.Fatalf("Pow(%d, %d) has error %d", i, j, err)
					}
					row[i] ^= field.Mul(c, power)
				}
			}
			checkPut(t, row[:k], row)
		}
	}
}

func TestP70Errors(t *testing.T) {
	next := numbers()
	for _, count := range append([]int{0}, tooMany...) {
		data := anyBytes(count, next)
		for n := range most + 3 {
			checkNoPut(t, data, n, api.ErrLarge)
		}
		// What is wrong with data goes before what is wrong with n.
		for _, n := range append([]int{count - 1, count, count + 1}, badNumbers...) {
			checkNoPut(t, data, n, api.ErrLarge)
		}
	}
	checkNoPut(t, nil, 1, api.ErrLarge)
	for count := 1; count <= most; count++ {
		for n := range count {
			checkNoPut(t, anyBytes(count, next), n, api.ErrArg)
		}
		for _, n := range badNumbers {
			checkNoPut(t, anyBytes(count, next), n, api.ErrArg)
		}
	}
}

// wrong are arguments that neither Check nor Mend allows.
type wrong struct {
	l   []api.Cell
	k   int
	err api.Errno
}

// wrongs are arguments that neither Check nor Mend allows, with what is wrong
// first.
func wrongs() []wrong {
	next := numbers()
	list := []wrong{{nil, 1, api.ErrArg}, {nil, 0, api.ErrArg}}
	for _, count := range tooMany {
		for _, k := range append([]int{1, 2, most, count, count + 1}, badNumbers...) {
			list = append(list, wrong{make([]api.Cell, count), k, api.ErrLarge},
				wrong{cells(anyBytes(count, next), all(60)), k, api.ErrLarge},
				wrong{cells(make([]byte, count), all(60)), k, api.ErrLarge})
		}
	}
	for count := range most + 1 {
		// A wrong dimension goes before too few cells and before wrong bytes.
		for _, k := range append([]int{count + 1, count + 2, most + 1}, badNumbers...) {
			list = append(list, wrong{make([]api.Cell, count), k, api.ErrArg},
				wrong{cells(anyBytes(count, next), all(count)), k, api.ErrArg},
				wrong{cells(make([]byte, count), all(count)), k, api.ErrArg})
		}
	}
	return list
}

func TestP71Check(t *testing.T) {
	next := numbers()
	for count := 1; count <= most; count++ {
		for k := 1; k <= count; k++ {
			// Neither cells that are not present nor wrong bytes count.
			for _, present := range []int{0, all(count), all(k - 1), next(1 << count), next(1 << count)} {
				l := cells(anyBytes(count, next), present)
				if err := reed.Check(l, k); err != api.OK {
					t.Errorf("Check(%v, %d) = %d", l, k, err)
				}
			}
		}
	}
}

func TestP71Errors(t *testing.T) {
	for _, w := range wrongs() {
		if err := reed.Check(w.l, w.k); err != w.err {
			t.Errorf("Check(%v, %d) = %d, want error %d", w.l, w.k, err, w.err)
		}
	}
}

func checkMend(t *testing.T, l []api.Cell, k int, want []byte) {
	t.Helper()
	if row, err := reed.Mend(l, k); err != api.OK || !slices.Equal(row, want) {
		t.Errorf("Mend(%v, %d) = %v, %d, want %v", l, k, row, err, want)
	}
}

func checkNoMend(t *testing.T, l []api.Cell, k int, want api.Errno) {
	t.Helper()
	if row, err := reed.Mend(l, k); len(row) != 0 || err != want {
		t.Errorf("Mend(%v, %d) = %v, %d, want error %d", l, k, row, err, want)
	}
}

func TestP72Mend(t *testing.T) {
	lost := api.Cell{}
	has := func(b byte) api.Cell { return api.Cell{Has: true, B: b} }
	for _, c := range []struct {
		l    []api.Cell
		k    int
		want []byte
	}{
		{[]api.Cell{has(9)}, 1, []byte{9}},
		{[]api.Cell{has(0)}, 1, []byte{0}},
		{[]api.Cell{lost, lost, has(9)}, 1, []byte{9, 9, 9}},
		{[]api.Cell{has(9), lost, lost}, 1, []byte{9, 9, 9}},
		{[]api.Cell{has(9), {B: 1}, has(9)}, 1, []byte{9, 9, 9}},
		{[]api.Cell{lost, has(7), {B: 99}, has(3)}, 2, []byte{5, 7, 1, 3}},
		{[]api.Cell{lost, lost, has(1), has(3)}, 2, []byte{5, 7, 1, 3}},
		{[]api.Cell{has(5), lost, has(1), has(3)}, 2, []byte{5, 7, 1, 3}},
		{[]api.Cell{has(5), has(7), has(1), has(3)}, 2, []byte{5, 7, 1, 3}},
		// The same bytes make another row if all of them are needed.
		{[]api.Cell{has(5), has(7), has(1), has(9)}, 4, []byte{5, 7, 1, 9}},
		// A byte 0 that is present is not a lost one.
		{[]api.Cell{has(0), lost, has(0), lost}, 2, []byte{0, 0, 0, 0}},
		{[]api.Cell{lost, has(1), {Has: false, B: 200}, has(5)}, 2, []byte{3, 1, 7, 5}},
		{cells(squares, 1<<19|1<<16|1<<3), 3, squares},
		{cells(squares, 1<<19|1<<18|1<<17), 3, squares},
		{cells(squares, all(most)), 3, squares},
		{cells(sums, 1<<17|1<<10|1<<9|1<<2), 3, sums},
		{cells(sums, all(most)), most, sums},
	} {
		checkMend(t, c.l, c.k, c.want)
	}
}

// TestP72MendOfAllSets mends rows of which each set of cells is present.
func TestP72MendOfAllSets(t *testing.T) {
	next := numbers()
	for n := 1; n <= 11; n++ {
		for k := 1; k <= n; k++ {
			for present := range 1 << n {
				row := codeRow(anyBytes(k, next), n)
				if bits.OnesCount(uint(present)) < k {
					checkNoMend(t, cells(row, present), k, api.ErrFew)
				} else {
					checkMend(t, cells(row, present), k, row)
				}
			}
		}
	}
}

// TestP72MendOfAllSizes mends some rows of all sizes, with all numbers of cells
// that are present.
func TestP72MendOfAllSizes(t *testing.T) {
	next := numbers()
	for n := 1; n <= most; n++ {
		for k := 1; k <= n; k++ {
			for count := range n + 1 {
				for range 5 {
					row := codeRow(anyBytes(k, next), n)
					present := anySet(n, count, next)
					if count < k {
						checkNoMend(t, cells(row, present), k, api.ErrFew)
					} else {
						checkMend(t, cells(row, present), k, row)
					}
				}
			}
		}
	}
}

// TestP72MendIsPut mends what Put returns.
func TestP72MendIsPut(t *testing.T) {
	next := numbers()
	for k := 1; k <= most; k++ {
		for n := k; n <= most; n++ {
			row, err := reed.Put(anyBytes(k, next), n)
			if err != api.OK {
				t.Fatalf("Put has error %d for %d of %d bytes", err, k, n)
			}
			for _, present := range []int{all(k), all(n), all(n) - all(n-k), anySet(n, k, next)} {
				checkMend(t, cells(row, present), k, row)
			}
		}
	}
}

// TestP72OneByteIsRight tries all bytes in a cell beside as many as the
// dimension: one of them is that of the code row.
func TestP72OneByteIsRight(t *testing.T) {
	next := numbers()
	for n := 2; n <= most; n++ {
		for k := 1; k < n; k++ {
			row := codeRow(anyBytes(k, next), n)
			present := anySet(n, k+1, next)
			l := cells(row, present)
			i := next(n)
			for !l[i].Has {
				i = next(n)
			}
			for b := range 256 {
				l[i].B = byte(b)
				if l[i].B == row[i] {
					checkMend(t, l, k, row)
				} else {
					checkNoMend(t, l, k, api.ErrSum)
				}
			}
		}
	}
}

// TestP72EveryByteIsCompared changes each cell of a row, of which all are
// present.
func TestP72EveryByteIsCompared(t *testing.T) {
	next := numbers()
	for n := 1; n <= most; n++ {
		for k := 1; k <= n; k++ {
			row := codeRow(anyBytes(k, next), n)
			for i := range n {
				l := cells(changed(row, 1<<i, next), all(n))
				if k < n {
					checkNoMend(t, l, k, api.ErrSum)
				} else if got, err := reed.Mend(l, k); err != api.OK || got[i] != l[i].B {
					t.Errorf("Mend(%v, %d) = %v, %d", l, k, got, err)
				}
				// It does not count what a cell has that is not present.
				l[i].Has = false
				if k < n {
					checkMend(t, l, k, row)
				} else {
					checkNoMend(t, l, k, api.ErrFew)
				}
			}
		}
	}
}

// TestP72FewChangesAreFound changes at most as many cells as more are present
// than the dimension, so that no other code row has the bytes.
func TestP72FewChangesAreFound(t *testing.T) {
	next := numbers()
	for n := 2; n <= most; n++ {
		for k := 1; k < n; k++ {
			for range 30 {
				row := codeRow(anyBytes(k, next), n)
				present := anySet(n, k+1+next(n-k), next)
				wrongOnes, count := 0, 1+next(bits.OnesCount(uint(present))-k)
				for bits.OnesCount(uint(wrongOnes)) < count {
					wrongOnes |= 1 << next(n) & present
				}
				checkNoMend(t, cells(changed(row, wrongOnes, next), present), k, api.ErrSum)
			}
		}
	}
}

// powersOf returns the matrix whose product with the coefficients of a
// polynomial is its values at the numbers of a set.
func powersOf(t *testing.T, set, k int) [][]byte {
	t.Helper()
	var points []byte
	for i := range most {
		if set>>i&1 == 1 {
			points = append(points, byte(i))
		}
	}
	m, err := grid.Powers(points, k)
	if err != api.OK {
		t.Fatalf("Powers(%v, %d) has error %d", points, k, err)
	}
	return m
}

// TestP72MendSolvesEquations compares with a system of equations for the
// coefficients, which has no solution if there is no code row.
func TestP72MendSolvesEquations(t *testing.T) {
	next := numbers()
	for n := 1; n <= most; n++ {
		for k := 1; k <= min(n, api.MaxSide); k++ {
			for range 40 {
				count := k + next(min(n, api.MaxSide)-k+1)
				present := anySet(n, count, next)
				row := changed(codeRow(anyBytes(k, next), n), next(1<<n)&next(1<<n)&next(1<<n), next)
				l := cells(row, present)
				var values []byte
				for i, cell := range l {
					if cell.Has {
						values = append(values, row[i])
					}
				}
				f, err := matrix.Solve(powersOf(t, present, k), values)
				switch err {
				case api.OK:
					checkMend(t, l, k, codeRow(f, n))
				case api.ErrNone:
					checkNoMend(t, l, k, api.ErrSum)
				default:
					t.Fatalf("Solve has error %d", err)
				}
			}
		}
	}
}

// smallRows are all rows with 1 to 4 cells that are lost or less than 4.
func smallRows() [][]api.Cell {
	var list [][]api.Cell
	longest := [][]api.Cell{nil}
	for range 4 {
		var longer [][]api.Cell
		for _, l := range longest {
			longer = append(longer, append(slices.Clone(l), api.Cell{B: 2}))
			for b := range byte(4) {
				longer = append(longer, append(slices.Clone(l), api.Cell{Has: true, B: b}))
			}
		}
		longest = longer
		list = append(list, longest...)
	}
	return list
}

// isIn tells whether a code row, with 4 bytes, has the bytes of all cells that
// are present.
func isIn(row [4]byte, l []api.Cell) bool {
	for i, cell := range l {
		if cell.Has && cell.B != row[i] {
			return false
		}
	}
	return true
}

// TestP72MendSearchesSmallRows compares with a search among all code rows.
func TestP72MendSearchesSmallRows(t *testing.T) {
	for k := 1; k <= 2; k++ {
		var rows [][4]byte
		for number := range 1 << (8 * k) {
			f := []byte{byte(number), byte(number >> 8)}[:k]
			rows = append(rows, [4]byte(codeRow(f, 4)))
		}
		for _, l := range smallRows() {
			count := 0
			for _, cell := range l {
				if cell.Has {
					count++
				}
			}
			if k > len(l) {
				checkNoMend(t, l, k, api.ErrArg)
				continue
			}
			if count < k {
				checkNoMend(t, l, k, api.ErrFew)
				continue
			}
			found := slices.IndexFunc(rows, func(row [4]byte) bool { return isIn(row, l) })
			if found < 0 {
				checkNoMend(t, l, k, api.ErrSum)
			} else {
				checkMend(t, l, k, rows[found][:len(l)])
			}
		}
	}
}

func TestP72Errors(t *testing.T) {
	for _, w := range wrongs() {
		checkNoMend(t, w.l, w.k, w.err)
	}
	next := numbers()
	for n := 1; n <= most; n++ {
		for k := 1; k <= n; k++ {
			// Too few are too few with any bytes.
			for count := range k {
				checkNoMend(t, cells(anyBytes(n, next), anySet(n, count, next)), k, api.ErrFew)
				checkNoMend(t, cells(make([]byte, n), all(count)), k, api.ErrFew)
			}
		}
	}
}
