package welch_test

import (
	"math"
	"math/bits"
	"slices"
	"testing"

	"wholemend/api"
	"wholemend/field"
	"wholemend/reed"
	"wholemend/welch"
)

const most = api.MaxSide

// badNumbers are no dimension of any code row.
var badNumbers = []int{
	math.MinInt, math.MinInt + 1, math.MinInt32, -(1 << 32) + 1, -api.MaxInt, -65536, -256, -255, -most, -1, 0,
	most + 1, most + 2, api.MaxPieces, 255, 256, 257, 256 + most, 65537, api.MaxInt, math.MaxInt32, 1<<32 + 1,
	1<<32 + most, math.MaxInt - 1, math.MaxInt,
}

// tooMany are more bytes than a row may have.
var tooMany = []int{most + 1, most + 2, api.MaxPieces, 2 * most, 255, 256, 257, 256 + most, 1000, 1<<16 + 1, 1<<16 + most}

// numbers returns a function for numbers from 0 to below - 1, always the same.
func numbers() func(below int) int {
	seed := uint32(1)
	return func(below int) int {
		seed = seed*1664525 + 1013904223
		return int(seed>>8) % below
	}
}

// anyBytes returns so many bytes.
func anyBytes(count int, next func(below int) int) []byte {
	l := make([]byte, count)
	for i := range l {
		l[i] = byte(next(256))
	}
	return l
}

// codeRow returns the values at 0 to n - 1 of the polynomial with these
// coefficients.
func codeRow(f []byte, n int) []byte {
	row := make([]byte, n)
	for i := range row {
		power := byte(1)
		for _, c := range f {
			row[i] ^= field.Mul(c, power)
			power = field.Mul(power, byte(i))
		}
	}
	return row
}

// anySet returns a set of so many numbers below n.
func anySet(n, count int, next func(below int) int) int {
	set := 0
	for bits.OnesCount(uint(set)) < count {
		set |= 1 << next(n)
	}
	return set
}

// changed returns the row with other bytes at the numbers of a set.
func changed(row []byte, set int, next func(below int) int) []byte {
	row = slices.Clone(row)
	for i := range row {
		if set>>i&1 == 1 {
			row[i] ^= byte(1 + next(255))
		}
	}
	return row
}

// reach is how many bytes of a row may be wrong.
func reach(n, k int) int {
	return (n - k) / 2
}

// apart is at how many positions two rows differ.
func apart(a, b []byte) int {
	count := 0
	for i := range a {
		if a[i] != b[i] {
			count++
		}
	}
	return count
}

// call is one of a function, with its arguments.
type call struct {
	name string
	l    []byte
	k    int
}

// do returns what the function returns.
func (c call) do() ([]byte, int, api.Errno) {
	if c.name == "Check" {
		return nil, 0, welch.Check(c.l, c.k)
	}
	return welch.Mend(c.l, c.k)
}

// same returns the same call with its row in other memory.
func (c call) same() call {
	c.l = slices.Clone(c.l)
	return c
}

// results are calls of Mend that have no error, of all sizes.
func results() []call {
	next := numbers()
	var list []call
	for n := 1; n <= most; n++ {
		for k := 1; k <= n; k++ {
			for wrong := range reach(n, k) + 1 {
				row := codeRow(anyBytes(k, next), n)
				list = append(list, call{"Mend", changed(row, anySet(n, wrong, next), next), k})
			}
		}
	}
	return list
}

// calls are those above, and others with all kinds of errors.
func calls() []call {
	next := numbers()
	list := results()
	add := func(l []byte, k int) {
		list = append(list, call{"Check", l, k}, call{"Mend", l, k})
	}
	for _, k := range append([]int{1, 2, most - 1, most}, badNumbers...) {
		add(nil, k)
		add([]byte{}, k)
		for _, count := range tooMany {
			add(anyBytes(count, next), k)
		}
		for count := 1; count <= most; count++ {
			add(anyBytes(count, next), k)
			add(make([]byte, count), k)
		}
	}
	for count := 1; count <= most; count++ {
		for k := range most + 3 {
			for range 5 {
				add(anyBytes(count, next), k)
			}
		}
	}
	return list
}

func TestP1NoArgumentPanics(t *testing.T) {
	for _, c := range calls() {
		func() {
			defer func() {
				if r := recover(); r != nil {
					t.Errorf("%v panics: %v", c, r)
				}
			}()
			c.do()
		}()
	}
}

func TestP2ResultsDependOnlyOnArguments(t *testing.T) {
	type result struct {
		row   []byte
		wrong int
		err   api.Errno
	}
	list := calls()
	first := make([]result, len(list))
	for i, c := range list {
		row, wrong, err := c.do()
		first[i] = result{row, wrong, err}
	}
	check := func(i int) {
		c, want := list[i], first[i]
		if row, wrong, err := c.do(); err != want.err || wrong != want.wrong || !slices.Equal(row, want.row) {
			t.Errorf("%v: first %v, then %v, %d, %d", c, want, row, wrong, err)
		}
	}
	for i := range list {
		check(i)
	}
	// Nor does it count which calls come before.
	for i := range slices.Backward(list) {
		check(i)
	}
}

func TestP2OtherResultsAreZeroWithAnError(t *testing.T) {
	for _, c := range calls() {
		if row, wrong, err := c.do(); err != api.OK && (len(row) != 0 || wrong != 0) {
			t.Errorf("%v = %v, %d with error %d", c, row, wrong, err)
		}
	}
}

func TestP2ArgumentsStayAsTheyAre(t *testing.T) {
	for _, c := range calls() {
		c.l = append(slices.Clone(c.l), anyBytes(2*most, numbers())...)[:len(c.l)]
		l := slices.Clone(c.l[:cap(c.l)])
		c.do()
		if !slices.Equal(c.l[:cap(c.l)], l) {
			t.Errorf("%s changes its argument %v", c.name, l)
		}
	}
}

// spoil writes to all memory behind a row.
func spoil(row []byte) {
	row = row[:cap(row)]
	for i := range row {
		row[i] ^= 0xa5
	}
}

func TestP2ResultsAreNewMemory(t *testing.T) {
	for _, c := range results() {
		// A row without wrong bytes is equal to its argument, and yet not it.
		c.l = append(slices.Clone(c.l), make([]byte, 2*most)...)[:len(c.l)]
		before := slices.Clone(c.l[:cap(c.l)])
		first, _, err := c.do()
		second, _, _ := c.do()
		if err != api.OK || len(first) == 0 {
			t.Fatalf("%v = %v, %d", c, first, err)
		}
		want := slices.Clone(second)
		spoil(first)
		if !slices.Equal(c.l[:cap(c.l)], before) {
			t.Fatalf("%v shares its result with its argument", c)
		}
		if !slices.Equal(second, want) {
			t.Fatalf("%v shares its result with another one", c)
		}
		if third, _, _ := c.do(); !slices.Equal(third, want) {
			t.Fatalf("%v keeps its result", c)
		}
	}
}

// TestP2ArgumentsAreNotRetained writes other bytes to the memory of a row that
// an earlier call had.
func TestP2ArgumentsAreNotRetained(t *testing.T) {
	for _, c := range results() {
		c = c.same()
		first, _, _ := c.do()
		want := slices.Clone(first)
		for i := range c.l {
			// A sum with the same byte everywhere is as near to a code row.
			c.l[i] ^= 0x5a
		}
		if !slices.Equal(first, want) {
			t.Fatalf("%v returns memory of its argument", c)
		}
		got, wrong, err := c.do()
		if other, otherWrong, otherErr := c.same().do(); err != api.OK || otherErr != api.OK ||
			wrong != otherWrong || !slices.Equal(got, other) {
			t.Fatalf("%v = %v, %d, but %v, %d in other memory", c, got, err, other, otherErr)
		}
	}
}

// wrong is a row and a dimension that neither Check nor Mend allows.
type wrong struct {
	l   []byte
	k   int
	err api.Errno
}

// wrongs are some of these, with what is wrong first.
func wrongs() []wrong {
	next := numbers()
	list := []wrong{{nil, 1, api.ErrArg}, {[]byte{}, 0, api.ErrArg}}
	for _, count := range tooMany {
		// Too many bytes go before a wrong dimension, and both before bytes
		// that are near to no code row.
		for _, k := range append([]int{1, 2, most, count - 1, count, count + 1}, badNumbers...) {
			list = append(list, wrong{anyBytes(count, next), k, api.ErrLarge},
				wrong{make([]byte, count), k, api.ErrLarge})
		}
	}
	for count := range most + 1 {
		for _, k := range append([]int{count + 1, count + 2, 2 * count, most + 1}, badNumbers...) {
			if k >= 1 && k <= count {
				continue
			}
			list = append(list, wrong{anyBytes(count, next), k, api.ErrArg},
				wrong{make([]byte, count), k, api.ErrArg})
		}
	}
	return list
}

func TestP73Check(t *testing.T) {
	next := numbers()
	for count := 1; count <= most; count++ {
		for k := 1; k <= count; k++ {
			for _, l := range [][]byte{
				// Bytes that are near to no code row are none of its errors.
				make([]byte, count), slices.Repeat([]byte{255}, count), anyBytes(count, next), anyBytes(count, next),
				codeRow(anyBytes(k, next), count),
			} {
				if err := welch.Check(l, k); err != api.OK {
					t.Errorf("Check(%v, %d) = %d", l, k, err)
				}
			}
		}
	}
}

func TestP73Errors(t *testing.T) {
	for _, w := range wrongs() {
		if err := welch.Check(w.l, w.k); err != w.err {
			t.Errorf("Check(%v, %d) = %d, want error %d", w.l, w.k, err, w.err)
		}
	}
}

func checkMend(t *testing.T, l []byte, k int, want []byte, wrong int) {
	t.Helper()
	if row, count, err := welch.Mend(l, k); err != api.OK || count != wrong || !slices.Equal(row, want) {
		t.Errorf("Mend(%v, %d) = %v, %d, %d, want %v, %d", l, k, row, count, err, want, wrong)
	}
}

func checkNoMend(t *testing.T, l []byte, k int, want api.Errno) {
	t.Helper()
	if row, count, err := welch.Mend(l, k); len(row) != 0 || count != 0 || err != want {
		t.Errorf("Mend(%v, %d) = %v, %d, %d, want error %d", l, k, row, count, err, want)
	}
}

func TestP74Mend(t *testing.T) {
	for _, c := range []struct {
		l     []byte
		k     int
		want  []byte
		wrong int
	}{
		{[]byte{7, 7, 9}, 1, []byte{7, 7, 7}, 1},
		{[]byte{7, 9, 7}, 1, []byte{7, 7, 7}, 1},
		{[]byte{9, 7, 7}, 1, []byte{7, 7, 7}, 1},
		{[]byte{7, 7, 7}, 1, []byte{7, 7, 7}, 0},
		{[]byte{9}, 1, []byte{9}, 0},
		{[]byte{0}, 1, []byte{0}, 0},
		{[]byte{9, 9}, 1, []byte{9, 9}, 0},
		{[]byte{1, 9, 9, 9}, 1, []byte{9, 9, 9, 9}, 1},
		{[]byte{0, 4, 0, 5, 0}, 1, []byte{0, 0, 0, 0, 0}, 2},
		{[]byte{1, 2, 3, 4, 5, 9, 9, 9, 9, 9, 9}, 1, slices.Repeat([]byte{9}, 11), 5},
		{[]byte{1, 2, 3, 4, 5, 9, 9, 9, 9, 9, 9, 9}, 1, slices.Repeat([]byte{9}, 12), 5},
		{[]byte{9, 8, 9, 8, 9, 8, 9, 8, 9, 9, 8, 9}, 1, slices.Repeat([]byte{9}, 12), 5},
		// The polynomial is x.
		{[]byte{0, 1, 2, 3}, 2, []byte{0, 1, 2, 3}, 0},
		{[]byte{0, 1, 2, 0}, 2, []byte{0, 1, 2, 3}, 1},
		{[]byte{3, 1, 2, 3}, 2, []byte{0, 1, 2, 3}, 1},
		{[]byte{0, 1, 2, 3, 4, 5, 6, 7, 12, 13, 14, 15}, 2, []byte{0, 1, 2, 3, 4, 5, 6, 7, 8, 9, 10, 11}, 4},
		{[]byte{200, 0, 1, 3, 4, 5, 6, 7, 8, 9, 10, 0}, 2, []byte{0, 1, 2, 3, 4, 5, 6, 7, 8, 9, 10, 11}, 4},
		// It is x + 7.
		{[]byte{7, 6, 5, 4, 3}, 2, []byte{7, 6, 5, 4, 3}, 0},
		{[]byte{7, 6, 5, 4, 2}, 2, []byte{7, 6, 5, 4, 3}, 1},
		{[]byte{0, 6, 5, 4, 3}, 2, []byte{7, 6, 5, 4, 3}, 1},
		// It is the square of x.
		{[]byte{0, 1, 4, 5, 16, 17, 20, 21, 64, 65, 68, 69}, 3, []byte{0, 1, 4, 5, 16, 17, 20, 21, 64, 65, 68, 69}, 0},
		{[]byte{0, 1, 4, 9, 16, 25, 36, 21, 64, 65, 68, 0}, 3, []byte{0, 1, 4, 5, 16, 17, 20, 21, 64, 65, 68, 69}, 4},
		// Any bytes are a code row if all of them are needed.
		{[]byte{1, 200, 3, 77}, 4, []byte{1, 200, 3, 77}, 0},
		{[]byte{0, 0, 0, 0, 0, 0, 0, 0, 0, 0, 0, 1}, 12, []byte{0, 0, 0, 0, 0, 0, 0, 0, 0, 0, 0, 1}, 0},
	} {
		checkMend(t, c.l, c.k, c.want, c.wrong)
	}
}

func TestP74NoneIsNear(t *testing.T) {
	for _, c := range []struct {
		l []byte
		k int
	}{
		{[]byte{7, 9}, 1},
		{[]byte{7, 8, 9}, 1},
		{[]byte{7, 7, 9, 9}, 1},
		{[]byte{7, 7, 8, 9}, 1},
		{[]byte{7, 7, 8, 9, 10}, 1},
		{[]byte{1, 2, 3, 4, 5, 6, 9, 9, 9, 9, 9}, 1},
		{[]byte{1, 2, 3, 4, 5, 6, 9, 9, 9, 9, 9, 9}, 1},
		{[]byte{9, 8, 9, 8, 9, 8, 9, 8, 9, 8, 9, 8}, 1},
		// The sum of the four bytes of a code row of dimension 3 is 0.
		{[]byte{1, 2, 4, 9}, 3},
		{[]byte{0, 1, 3}, 2},
		{[]byte{0, 1, 2, 3, 5}, 4},
		{[]byte{0, 1, 2, 3, 4, 6}, 5},
		{[]byte{0, 1, 2, 3, 4, 5, 6, 7, 8, 9, 10, 0}, 11},
	} {
		checkNoMend(t, c.l, c.k, api.ErrNone)
	}
}

// TestP74AllSetsOfWrongBytes mends rows with each set of wrong bytes that is
// small enough.
func TestP74AllSetsOfWrongBytes(t *testing.T) {
	next := numbers()
	for n := 1; n <= most; n++ {
		for k := 1; k <= n; k++ {
			for set := range 1 << n {
				wrong := bits.OnesCount(uint(set))
				if wrong > reach(n, k) {
					continue
				}
				row := codeRow(anyBytes(k, next), n)
				checkMend(t, changed(row, set, next), k, row, wrong)
				// All wrong bytes may be wrong by as much.
				l := slices.Clone(row)
				for i := range l {
					l[i] ^= byte(set >> i & 1)
				}
				checkMend(t, l, k, row, wrong)
			}
		}
	}
}

// TestP74OneByteTakesAllValues tries all bytes at each position of a row, beside
// as many wrong ones as there may be and one fewer.
func TestP74OneByteTakesAllValues(t *testing.T) {
	next := numbers()
	for n := 1; n <= most; n++ {
		for k := 1; k <= n; k++ {
			row := codeRow(anyBytes(k, next), n)
			for i := range n {
				others := anySet(n, max(0, reach(n, k)-1), next) &^ (1 << i)
				l, wrong := changed(row, others, next), bits.OnesCount(uint(others))
				for b := range 256 {
					l[i] = byte(b)
					switch {
					case l[i] == row[i]:
						checkMend(t, l, k, row, wrong)
					case reach(n, k) > 0:
						checkMend(t, l, k, row, wrong+1)
					case k < n:
						checkNoMend(t, l, k, api.ErrNone)
					default:
						checkMend(t, l, k, l, 0)
					}
				}
			}
		}
	}
}

// TestP74SpecialRows mends rows of polynomials with few coefficients that are
// not 0, and of such with the last ones 0.
func TestP74SpecialRows(t *testing.T) {
	next := numbers()
	for n := 1; n <= most; n++ {
		for k := 1; k <= n; k++ {
			list := [][]byte{make([]byte, k), slices.Repeat([]byte{255}, k)}
			for j := range k {
				single := make([]byte, k)
				single[j] = byte(1 + next(255))
				list = append(list, single, append(anyBytes(j, next), make([]byte, k-j)...))
			}
			for _, f := range list {
				row := codeRow(f, n)
				for wrong := range reach(n, k) + 1 {
					checkMend(t, changed(row, anySet(n, wrong, next), next), k, row, wrong)
					// The wrong bytes may be those of another code row.
					other := codeRow(anyBytes(k, next), n)
					set, l := anySet(n, wrong, next), slices.Clone(row)
					for i := range l {
						if set>>i&1 == 1 {
							l[i] = other[i]
						}
					}
					checkMend(t, l, k, row, apart(l, row))
				}
			}
		}
	}
}

// nearest looks for the code row by mending each set of as many bytes as must be
// right, as if all others were lost.
func nearest(l []byte, k int) (row []byte, wrong int, found bool) {
	for set := range 1 << len(l) {
		if bits.OnesCount(uint(set)) != len(l)-reach(len(l), k) {
			continue
		}
		cells := make([]api.Cell, len(l))
		for i, b := range l {
			cells[i] = api.Cell{Has: set>>i&1 == 1, B: b}
		}
		if row, err := reed.Mend(cells, k); err == api.OK {
			return row, apart(row, l), true
		}
	}
	return nil, 0, false
}

func checkNearest(t *testing.T, l []byte, k int) {
	t.Helper()
	if row, wrong, found := nearest(l, k); found {
		checkMend(t, l, k, row, wrong)
	} else {
		checkNoMend(t, l, k, api.ErrNone)
	}
}

// TestP74NearestOfManyWrong compares with a search for rows with any number of
// wrong bytes.
func TestP74NearestOfManyWrong(t *testing.T) {
	next := numbers()
	for n := 1; n <= most; n++ {
		for k := 1; k <= n; k++ {
			for wrong := range n + 1 {
				row := codeRow(anyBytes(k, next), n)
				checkNearest(t, changed(row, anySet(n, wrong, next), next), k)
			}
			for range 5 {
				checkNearest(t, anyBytes(n, next), k)
			}
		}
	}
}

// TestP74NearestBetweenRows compares with a search for rows of which each byte
// is that of one of two code rows.
func TestP74NearestBetweenRows(t *testing.T) {
	next := numbers()
	for n := 2; n <= most; n++ {
		for k := 1; k < n; k++ {
			for first := range n + 1 {
				a, b := codeRow(anyBytes(k, next), n), codeRow(anyBytes(k, next), n)
				l, set := slices.Clone(a), anySet(n, first, next)
				for i := range l {
					if set>>i&1 == 1 {
						l[i] = b[i]
					}
				}
				checkNearest(t, l, k)
			}
		}
	}
}

// TestP74NearAnotherRow leaves no more bytes of a code row than are needed to
// make others: the one that is near to the row is returned, even if it is not
// the one from which the row was made.
func TestP74NearAnotherRow(t *testing.T) {
	next := numbers()
	for n := 3; n <= most; n++ {
		for k := 1; k <= n-2; k++ {
			// Two code rows agree at the first k - 1 points, and a row between
			// them is nearer to one of them.
			a := make([]byte, n)
			f := []byte{byte(1 + next(255))}
			for point := range k - 1 {
				f = timesFactor(f, byte(point))
			}
			b := codeRow(f, n)
			if apart(a, b) != n-k+1 {
				t.Fatalf("%v has %d bytes that are not 0", b, apart(a, b))
			}
			for split := k - 1; split <= n; split++ {
				l := slices.Concat(a[:split], b[split:])
				switch {
				case n-split <= reach(n, k):
					checkMend(t, l, k, a, n-split)
				case split-(k-1) <= reach(n, k):
					checkMend(t, l, k, b, split-(k-1))
				default:
					checkNearest(t, l, k)
				}
			}
		}
	}
}

// timesFactor returns the product of a polynomial and x - point.
func timesFactor(f []byte, point byte) []byte {
	product := append([]byte{0}, f...)
	for j, c := range f {
		product[j] ^= field.Mul(c, point)
	}
	return product
}

// TestP74OneTooManyIsFound changes one byte more than can be mended: if the
// length exceeds the dimension by an odd number, no other code row is as near.
func TestP74OneTooManyIsFound(t *testing.T) {
	next := numbers()
	for n := 2; n <= most; n++ {
		for k := n - 1; k >= 1; k -= 2 {
			for set := range 1 << n {
				if bits.OnesCount(uint(set)) == reach(n, k)+1 {
					row := codeRow(anyBytes(k, next), n)
					checkNoMend(t, changed(row, set, next), k, api.ErrNone)
				}
			}
		}
	}
}

// smallRows are all rows with 1 to 5 bytes below 4.
func smallRows() [][]byte {
	var list [][]byte
	longest := [][]byte{nil}
	for range 5 {
		var longer [][]byte
		for _, l := range longest {
			for b := range byte(4) {
				longer = append(longer, append(slices.Clone(l), b))
			}
		}
		longest = longer
		list = append(list, longest...)
	}
	return list
}

// TestP74SmallRows compares with a search among all code rows of dimensions 1
// and 2.
func TestP74SmallRows(t *testing.T) {
	var rows [][]byte
	for number := range 1 << 16 {
		rows = append(rows, codeRow([]byte{byte(number), byte(number >> 8)}, 5))
	}
	for _, l := range smallRows() {
		for k := 1; k <= min(2, len(l)); k++ {
			searchRows(t, l, k, rows[:1<<(8*k)])
		}
	}
}

func searchRows(t *testing.T, l []byte, k int, rows [][]byte) {
	t.Helper()
	var near [][]byte
	for _, row := range rows {
		if apart(l, row) <= reach(len(l), k) {
			near = append(near, row[:len(l)])
		}
	}
	switch len(near) {
	case 0:
		checkNoMend(t, l, k, api.ErrNone)
	case 1:
		checkMend(t, l, k, near[0], apart(l, near[0]))
	default:
		t.Errorf("%v are near to %v", near, l)
	}
}

// TestP74MendMendsWhatPutReturns takes its rows from reed.
func TestP74MendMendsWhatPutReturns(t *testing.T) {
	next := numbers()
	for k := 1; k <= most; k++ {
		for n := k; n <= most; n++ {
			row, err := reed.Put(anyBytes(k, next), n)
			if err != api.OK {
				t.Fatalf("Put has error %d for %d of %d bytes", err, k, n)
			}
			for wrong := range reach(n, k) + 1 {
				checkMend(t, changed(row, anySet(n, wrong, next), next), k, row, wrong)
			}
		}
	}
}

func TestP74Errors(t *testing.T) {
	for _, w := range wrongs() {
		checkNoMend(t, w.l, w.k, w.err)
	}
}
