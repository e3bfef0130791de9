package pair_test

import (
	"math"
	"slices"
	"strings"
	"testing"

	"wholemend/api"
	"wholemend/pair"
)

const (
	most    = api.MaxBlocks
	longest = api.MaxBlock
)

// badCounts are how many blocks there may not be.
var badCounts = []int{0, most + 1, most + 2, 2 * most, 255, 256, 257, 256 + most, 1<<16 + 1}

// tooLong are more bytes than a block may have.
var tooLong = []int{longest + 1, longest + 2, 2 * longest, 255, 256, 257, 256 + longest, 1<<16 + 1}

// numbers returns a function for numbers from 0 to below - 1, always the same.
func numbers() func(below int) int {
	seed := uint32(1)
	return func(below int) int {
		seed = seed*1664525 + 1013904223
		return int(seed>>8) % below
	}
}

// anyBlock returns some block of so many bytes.
func anyBlock(length int, next func(below int) int) string {
	l := make([]byte, length)
	for i := range l {
		l[i] = byte(next(256))
	}
	return string(l)
}

// anyBlocks returns so many blocks of so many bytes.
func anyBlocks(count, length int, next func(below int) int) []string {
	l := make([]string, count)
	for i := range l {
		l[i] = anyBlock(length, next)
	}
	return l
}

// changed returns the block with another byte at i.
func changed(block string, i int, next func(below int) int) string {
	l := []byte(block)
	l[i] ^= byte(1 + next(255))
	return string(l)
}

// replaced returns the blocks with other ones at some indices.
func replaced(blocks []string, block string, at ...int) []string {
	l := slices.Clone(blocks)
	for _, i := range at {
		l[i] = block
	}
	return l
}

// doubled returns the product of b and 2^times: each time, the coefficients move
// up, and if there is one of x^8, the polynomial 0x11d is taken away.
func doubled(b byte, times int) byte {
	f := int(b)
	for range times {
		f *= 2
		if f > 0xff {
			f ^= 0x11d
		}
	}
	return byte(f)
}

// parity returns P and Q of blocks as the document defines them.
func parity(blocks []string) (string, string) {
	p, q := make([]byte, len(blocks[0])), make([]byte, len(blocks[0]))
	for at := range p {
		for i := range blocks {
			p[at] ^= blocks[i][at]
			q[at] ^= doubled(blocks[i][at], i)
		}
	}
	return string(p), string(q)
}

// losses are all lists of up to two blocks that may be lost.
func losses(count int) [][]int {
	list := [][]int{nil}
	for i := range count {
		list = append(list, []int{i})
		for k := range count {
			if k != i {
				list = append(list, []int{i, k})
			}
		}
	}
	return list
}

// lengths are some of all kinds.
func lengths() []int {
	return []int{0, 1, 2, 3, 7, 8, 9, 31, 32, 33, longest - 1, longest}
}

// call is one of a function, with its arguments: those of Put are the blocks.
type call struct {
	name   string
	blocks []string
	p, q   string
	lost   []int
}

// result of a call.
type result struct {
	blocks []string
	p, q   string
	err    api.Errno
}

func (r result) equal(other result) bool {
	return slices.Equal(r.blocks, other.blocks) && r.p == other.p && r.q == other.q && r.err == other.err
}

// do returns what the function returns.
func (c call) do() result {
	if c.name == "Put" {
		p, q, err := pair.Put(c.blocks)
		return result{p: p, q: q, err: err}
	}
	blocks, err := pair.Mend(c.blocks, c.p, c.q, c.lost)
	return result{blocks: blocks, err: err}
}

// mend returns the call that mends the blocks, of which some are lost.
func mend(blocks []string, lost []int, next func(below int) int) call {
	p, q := parity(blocks)
	given := slices.Clone(blocks)
	for _, i := range lost {
		given[i] = anyBlock(len(p), next)
	}
	return call{"Mend", given, p, q, lost}
}

// rights are calls without an error, of all counts of blocks.
func rights() []call {
	next := numbers()
	var list []call
	for count := 1; count <= most; count++ {
		for _, length := range lengths() {
			blocks := anyBlocks(count, length, next)
			list = append(list, call{name: "Put", blocks: blocks})
			for _, lost := range losses(count) {
				list = append(list, mend(blocks, lost, next))
			}
		}
	}
	return list
}

// wrong is a call with an error.
type wrong struct {
	call
	err api.Errno
}

// wrongBlocks are blocks that both functions refuse, with what is wrong first.
func wrongBlocks() []wrong {
	next := numbers()
	var list []wrong
	add := func(err api.Errno, blocks ...string) {
		list = append(list, wrong{call{name: "Put", blocks: blocks}, err})
	}
	for _, count := range badCounts {
		add(api.ErrLarge, make([]string, count)...)
		add(api.ErrLarge, anyBlocks(count, 3, next)...)
		if count > 0 {
			// That there are too many goes before that one differs.
			add(api.ErrLarge, replaced(anyBlocks(count, 3, next), "ab", count-1)...)
			add(api.ErrLarge, replaced(anyBlocks(count, 3, next), "ab", 1)...)
		}
	}
	for _, length := range tooLong {
		long := anyBlock(length, next)
		for count := 1; count <= most; count++ {
			add(api.ErrLarge, slices.Repeat([]string{long}, count)...)
			for i := range count {
				// That a block is too long goes before that it differs.
				add(api.ErrLarge, replaced(anyBlocks(count, 5, next), long, i)...)
				add(api.ErrLarge, replaced(make([]string, count), long, i)...)
				add(api.ErrLarge, replaced(anyBlocks(count, longest, next), long, i)...)
			}
		}
	}
	return append(list, wrongLengths()...)
}

// wrongLengths are blocks of which some differs from the first one.
func wrongLengths() []wrong {
	next := numbers()
	var list []wrong
	add := func(err api.Errno, blocks ...string) {
		list = append(list, wrong{call{name: "Put", blocks: blocks}, err})
	}
	long := strings.Repeat("l", longest+1)
	for count := 2; count <= most; count++ {
		for _, first := range []int{0, 1, 2, longest - 1, longest} {
			blocks := anyBlocks(count, first, next)
			for _, length := range []int{0, 1, 3, longest} {
				if length == first {
					continue
				}
				other := anyBlock(length, next)
				for i := 1; i < count; i++ {
					add(api.ErrForm, replaced(blocks, other, i)...)
					for k := i + 1; k < count; k++ {
						// The first block that is wrong counts.
						add(api.ErrForm, replaced(replaced(blocks, other, i), long, k)...)
						add(api.ErrLarge, replaced(replaced(blocks, long, i), other, k)...)
					}
				}
				// All others agree with each other, but not with the first.
				add(api.ErrForm, replaced(anyBlocks(count, length, next), blocks[0], 0)...)
			}
		}
	}
	// It is bytes that count.
	add(api.ErrForm, "é", "e")
	add(api.ErrForm, "e", "é")
	return list
}

// badIndices are those of no block, if there are so many.
func badIndices(count int) []int {
	return []int{
		math.MinInt, math.MinInt32, -(1 << 32), -(1 << 32) + 1, -api.MaxInt, -256, -255, -count, -2, -1,
		count, count + 1, most + count, 255, 256, 257, 1 << 16, api.MaxInt, math.MaxInt32, 1 << 32, 1<<32 + 1, math.MaxInt,
	}
}

// wrongMends are calls of Mend with an error, with what is wrong first.
func wrongMends() []wrong {
	next := numbers()
	var list []wrong
	for _, w := range wrongBlocks() {
		// What is wrong with the blocks goes before all else.
		for _, lost := range [][]int{nil, {0}, {0, 1}, {-1}, {0, 0}, {0, 1, 2}} {
			length := 0
			if len(w.blocks) > 0 {
				length = len(w.blocks[0])
			}
			list = append(list, wrong{call{"Mend", w.blocks, "p", "", lost}, w.err},
				wrong{call{"Mend", w.blocks, anyBlock(length, next), anyBlock(length, next), lost}, w.err})
		}
	}
	// So it is if those that differ are lost.
	list = append(list, wrong{call{"Mend", []string{"abc", ""}, "abc", "abc", []int{1}}, api.ErrForm},
		wrong{call{"Mend", []string{"", "abc", "abc"}, "abc", "abc", []int{0}}, api.ErrForm},
		wrong{call{"Mend", []string{"", "", "abc"}, "abc", "abc", []int{0, 1}}, api.ErrForm},
		wrong{call{"Mend", []string{"abc", strings.Repeat("l", longest+1)}, "abc", "abc", []int{1}}, api.ErrLarge})
	for count := 1; count <= most; count++ {
		blocks := anyBlocks(count, 1+next(longest), next)
		list = append(list, wrongParities(blocks)...)
		list = append(list, wrongLosses(blocks)...)
	}
	return list
}

// wrongParities are calls with a p or q of another length.
func wrongParities(blocks []string) []wrong {
	next := numbers()
	right, rightQ := parity(blocks)
	var list []wrong
	for _, length := range append(lengths(), len(right)-1, len(right)+1, 2*len(right), 256+len(right), longest+1) {
		if length == len(right) {
			continue
		}
		other := anyBlock(length, next)
		for _, lost := range [][]int{nil, {0}, {len(blocks) - 1, 0}, {-1}, {0, 0}, {0, 0, 0}, {0, len(blocks)}} {
			list = append(list, wrong{call{"Mend", blocks, other, rightQ, lost}, api.ErrForm},
				wrong{call{"Mend", blocks, right, other, lost}, api.ErrForm},
				wrong{call{"Mend", blocks, other, other, lost}, api.ErrForm})
		}
	}
	return list
}

// wrongLosses are calls with indices that may not be lost.
func wrongLosses(blocks []string) []wrong {
	next := numbers()
	count := len(blocks)
	p, q := parity(blocks)
	otherP, otherQ := changed(p, 0, next), changed(q, 0, next)
	var list []wrong
	add := func(err api.Errno, lost ...int) {
		// All of this goes before that there are no such blocks.
		list = append(list, wrong{call{"Mend", blocks, p, q, lost}, err},
			wrong{call{"Mend", blocks, otherP, q, lost}, err}, wrong{call{"Mend", blocks, p, otherQ, lost}, err})
	}
	for i := range count {
		add(api.ErrThere, i, i)
		add(api.ErrFew, i, i, i)
		add(api.ErrFew, i, 0, count-1)
		for _, bad := range badIndices(count) {
			add(api.ErrArg, bad)
			add(api.ErrArg, bad, i)
			add(api.ErrArg, i, bad)
			add(api.ErrArg, bad, bad)
			add(api.ErrFew, bad, i, i)
			add(api.ErrFew, i, i, bad)
		}
	}
	for _, length := range []int{3, 4, most, most + 1, 256, 257, 258, 1<<16 + 1} {
		add(api.ErrFew, make([]int, length)...)
		add(api.ErrFew, slices.Repeat([]int{-1}, length)...)
	}
	return list
}

// wrongSums are calls whose p and q do not agree with the blocks.
func wrongSums() []wrong {
	next := numbers()
	var list []wrong
	add := func(blocks []string, p, q string, lost []int) {
		list = append(list, wrong{call{"Mend", blocks, p, q, lost}, api.ErrSum})
	}
	for count := 1; count <= most; count++ {
		for length := 1; length <= longest; length++ {
			blocks := anyBlocks(count, length, next)
			p, q := parity(blocks)
			at := next(length)
			otherP, otherQ := changed(p, at, next), changed(q, at, next)
			add(blocks, otherP, q, nil)
			add(blocks, p, otherQ, nil)
			add(blocks, otherP, otherQ, nil)
			for i := range count {
				add(blocks, otherP, q, []int{i})
				add(blocks, p, otherQ, []int{i})
				spoilt := replaced(blocks, changed(blocks[i], at, next), i)
				add(spoilt, p, q, nil)
				if k := next(count); k != i {
					// It is another block that is lost.
					add(spoilt, p, q, []int{k})
				}
			}
		}
	}
	return list
}

// wrongs are calls of all kinds with an error.
func wrongs() []wrong {
	return slices.Concat(wrongBlocks(), wrongMends(), wrongSums())
}

// calls are those of both functions, with right and wrong arguments.
func calls() []call {
	list := rights()
	for _, w := range wrongs() {
		list = append(list, w.call)
	}
	return append(list, call{name: "Put"}, call{name: "Mend"}, call{name: "Put", blocks: []string{}})
}

func TestP1NoArgumentPanics(t *testing.T) {
	for _, c := range calls() {
		func() {
			defer func() {
				if r := recover(); r != nil {
					t.Errorf("%#v panics: %v", c, r)
				}
			}()
			c.do()
		}()
	}
}

func TestP2ResultsDependOnlyOnArguments(t *testing.T) {
	list := calls()
	first := make([]result, len(list))
	for i, c := range list {
		first[i] = c.do()
	}
	check := func(i int) {
		if got := list[i].do(); !got.equal(first[i]) {
			t.Errorf("%#v: first %#v, then %#v", list[i], first[i], got)
		}
	}
	for i := range list {
		check(i)
	}
	// Nor does it count which calls come before, or where the arguments are.
	for i, c := range slices.Backward(list) {
		list[i] = c.same()
		check(i)
	}
}

// same returns the same call with arguments in other memory.
func (c call) same() call {
	c.blocks, c.lost = slices.Clone(c.blocks), slices.Clone(c.lost)
	for i, block := range c.blocks {
		c.blocks[i] = strings.Clone(block)
	}
	c.p, c.q = strings.Clone(c.p), strings.Clone(c.q)
	return c
}

func TestP2OtherResultsAreZeroWithAnError(t *testing.T) {
	for _, c := range calls() {
		if got := c.do(); got.err != api.OK && (got.p != "" || got.q != "" || len(got.blocks) != 0) {
			t.Errorf("%#v = %#v", c, got)
		}
	}
}

// roomy returns the call with arguments that have spare memory.
func (c call) roomy() call {
	c.blocks = append(slices.Clone(c.blocks), slices.Repeat([]string{"spare"}, 2*most)...)[:len(c.blocks)]
	c.lost = append(slices.Clone(c.lost), slices.Repeat([]int{1}, 2*most)...)[:len(c.lost)]
	return c
}

func TestP2ArgumentsStayAsTheyAre(t *testing.T) {
	for _, c := range calls() {
		c = c.roomy()
		blocks, lost := slices.Clone(c.blocks[:cap(c.blocks)]), slices.Clone(c.lost[:cap(c.lost)])
		c.do()
		if !slices.Equal(c.blocks[:cap(c.blocks)], blocks) || !slices.Equal(c.lost[:cap(c.lost)], lost) {
			t.Errorf("%s changes its arguments %q, %v", c.name, blocks[:len(c.blocks)], lost[:len(c.lost)])
		}
	}
}

// spoil writes to all memory behind a slice.
func spoil(l []string) {
	l = l[:cap(l)]
	for i := range l {
		l[i] += "?"
	}
}

func TestP2ResultsAreNewMemory(t *testing.T) {
	for _, c := range rights() {
		c = c.roomy()
		before := slices.Clone(c.blocks[:cap(c.blocks)])
		first, second := c.do(), c.do()
		want := slices.Clone(second.blocks)
		spoil(first.blocks)
		if !slices.Equal(c.blocks[:cap(c.blocks)], before) {
			t.Fatalf("%#v shares its result with its argument", c)
		}
		if !slices.Equal(second.blocks, want) {
			t.Fatalf("%#v shares its result with another one", c)
		}
		if third := c.do(); !slices.Equal(third.blocks, want) {
			t.Fatalf("%#v keeps its result", c)
		}
	}
}

// TestP2ArgumentsAreNotRetained puts other blocks into the memory that an
// earlier call had.
func TestP2ArgumentsAreNotRetained(t *testing.T) {
	next := numbers()
	for _, c := range rights() {
		c = c.same()
		first := c.do()
		want := slices.Clone(first.blocks)
		copy(c.blocks, anyBlocks(len(c.blocks), len(c.blocks[0]), next))
		if !slices.Equal(first.blocks, want) {
			t.Fatalf("%s returns memory of its argument, which is now %q", c.name, c.blocks)
		}
		if got, other := c.do(), c.same().do(); !got.equal(other) {
			t.Fatalf("%#v = %#v, but %#v in other memory", c, got, other)
		}
	}
}

// checkPut checks a result of Put without an error.
func checkPut(t *testing.T, blocks []string, wantP, wantQ string) {
	t.Helper()
	if p, q, err := pair.Put(blocks); p != wantP || q != wantQ || err != api.OK {
		t.Errorf("Put(%q) = %q, %q, %d, want %q, %q", blocks, p, q, err, wantP, wantQ)
	}
}

func TestP78Put(t *testing.T) {
	for _, c := range []struct {
		blocks []string
		p, q   string
	}{
		{[]string{""}, "", ""},
		{[]string{"", "", ""}, "", ""},
		{make([]string, most), "", ""},
		{[]string{"a"}, "a", "a"},
		{[]string{"abc"}, "abc", "abc"},
		{[]string{"\x00", "\x01"}, "\x01", "\x02"},
		{[]string{"\x01", "\x00"}, "\x01", "\x01"},
		{[]string{"\x01", "\x01"}, "\x00", "\x03"},
		{[]string{"\x00", "\x80"}, "\x80", "\x1d"},
		{[]string{"\x00", "\x00", "\x80"}, "\x80", "\x3a"},
		{[]string{"\x00", "\x80", "\x80"}, "\x00", "\x27"},
		{[]string{"\x01", "\x02", "\x04"}, "\x07", "\x15"},
		{[]string{"\x01\x10", "\x02\x20", "\x04\x40"}, "\x07\x70", "\x15\x4d"},
		{[]string{"\xff", "\xff"}, "\x00", "\x1c"},
		{[]string{"\x01", "\x01", "\x01", "\x01", "\x01", "\x01", "\x01", "\x01", "\x01", "\x01"}, "\x00", "\xd8"},
		{[]string{"\x00", "\x00", "\x00", "\x00", "\x00", "\x00", "\x00", "\x00", "\x01", "\x00"}, "\x01", "\x1d"},
		{[]string{"\x00", "\x00", "\x00", "\x00", "\x00", "\x00", "\x00", "\x00", "\x00", "\x01"}, "\x01", "\x3a"},
		{[]string{"é", "ab"}, "\xa2\xcb", "\x01\x6d"},
	} {
		checkPut(t, c.blocks, c.p, c.q)
	}
}

// TestP78PutOfEachByte has each byte at each index of each count of blocks.
func TestP78PutOfEachByte(t *testing.T) {
	for count := 1; count <= most; count++ {
		for i := range count {
			for b := range 256 {
				block := string([]byte{byte(b)})
				blocks := replaced(slices.Repeat([]string{"\x00"}, count), block, i)
				checkPut(t, blocks, block, string([]byte{doubled(byte(b), i)}))
			}
		}
	}
}

// TestP78PutOfAllPairs has all pairs of bytes.
func TestP78PutOfAllPairs(t *testing.T) {
	for a := range 256 {
		for b := range 256 {
			blocks := []string{string([]byte{byte(a)}), string([]byte{byte(b)})}
			checkPut(t, blocks, string([]byte{byte(a ^ b)}), string([]byte{byte(a) ^ doubled(byte(b), 1)}))
		}
	}
}

func TestP78PutOfEverySize(t *testing.T) {
	next := numbers()
	for count := 1; count <= most; count++ {
		for length := range longest + 1 {
			for range 3 {
				blocks := anyBlocks(count, length, next)
				p, q := parity(blocks)
				checkPut(t, blocks, p, q)
			}
		}
	}
}

// TestP78EachPositionIsItsOwn changes one byte, which changes only the bytes at
// its position.
func TestP78EachPositionIsItsOwn(t *testing.T) {
	next := numbers()
	for count := 1; count <= most; count++ {
		for at := range longest {
			blocks, i := anyBlocks(count, longest, next), next(count)
			other := replaced(blocks, changed(blocks[i], at, next), i)
			p, q, err := pair.Put(blocks)
			otherP, otherQ, otherErr := pair.Put(other)
			if err != api.OK || otherErr != api.OK {
				t.Fatalf("Put has errors %d, %d", err, otherErr)
			}
			for k := range longest {
				if (p[k] != otherP[k]) != (k == at) || (q[k] != otherQ[k]) != (k == at) {
					t.Errorf("byte %d of block %d of %d changes byte %d: %t, %t", at, i, count, k, p[k] != otherP[k], q[k] != otherQ[k])
				}
			}
		}
	}
}

func TestP78Errors(t *testing.T) {
	for _, w := range wrongBlocks() {
		if p, q, err := pair.Put(w.blocks); p != "" || q != "" || err != w.err {
			t.Errorf("Put(%q) = %q, %q, %d, want error %d", w.blocks, p, q, err, w.err)
		}
	}
}

// checkMend checks a result of Mend without an error.
func checkMend(t *testing.T, c call, want []string) {
	t.Helper()
	if got, err := pair.Mend(c.blocks, c.p, c.q, c.lost); !slices.Equal(got, want) || err != api.OK {
		t.Errorf("Mend(%q, %q, %q, %v) = %q, %d, want %q", c.blocks, c.p, c.q, c.lost, got, err, want)
	}
}

func TestP79Mend(t *testing.T) {
	for _, c := range []struct {
		blocks []string
		p, q   string
		lost   []int
		want   []string
	}{
		{[]string{"a"}, "a", "a", nil, []string{"a"}},
		{[]string{"?"}, "a", "a", []int{0}, []string{"a"}},
		{[]string{"\x01", "\x02", "\x04"}, "\x07", "\x15", []int{}, []string{"\x01", "\x02", "\x04"}},
		{[]string{"\x00", "\x02", "\x04"}, "\x07", "\x15", []int{0}, []string{"\x01", "\x02", "\x04"}},
		{[]string{"\x01", "\x00", "\x04"}, "\x07", "\x15", []int{1}, []string{"\x01", "\x02", "\x04"}},
		{[]string{"\x01", "\x02", "\x00"}, "\x07", "\x15", []int{2}, []string{"\x01", "\x02", "\x04"}},
		{[]string{"\x09", "\x09", "\x04"}, "\x07", "\x15", []int{0, 1}, []string{"\x01", "\x02", "\x04"}},
		{[]string{"\x09", "\x09", "\x04"}, "\x07", "\x15", []int{1, 0}, []string{"\x01", "\x02", "\x04"}},
		{[]string{"\x09", "\x02", "\x09"}, "\x07", "\x15", []int{0, 2}, []string{"\x01", "\x02", "\x04"}},
		{[]string{"\x01", "\x09", "\x09"}, "\x07", "\x15", []int{2, 1}, []string{"\x01", "\x02", "\x04"}},
		{[]string{""}, "", "", nil, []string{""}},
		{[]string{""}, "", "", []int{0}, []string{""}},
		{[]string{"", ""}, "", "", []int{1, 0}, []string{"", ""}},
		{make([]string, most), "", "", []int{3, 7}, make([]string, most)},
	} {
		checkMend(t, call{"Mend", c.blocks, c.p, c.q, c.lost}, c.want)
	}
}

// TestP79MendOfEverySize loses any blocks of any size.
func TestP79MendOfEverySize(t *testing.T) {
	next := numbers()
	for count := 1; count <= most; count++ {
		for length := range longest + 1 {
			blocks := anyBlocks(count, length, next)
			for _, lost := range losses(count) {
				checkMend(t, mend(blocks, lost, next), blocks)
			}
		}
	}
}

// TestP79AnyTwoByteSumsAreMended takes any bytes as P and Q: with two lost
// blocks, there are always blocks that have them. It searches for these.
func TestP79AnyTwoByteSumsAreMended(t *testing.T) {
	next := numbers()
	for count := 2; count <= most; count++ {
		for _, lost := range losses(count) {
			if len(lost) != 2 {
				continue
			}
			for range 10 {
				p, q := anyBlock(1, next), anyBlock(1, next)
				blocks := anyBlocks(count, 1, next)
				checkMend(t, call{"Mend", blocks, p, q, lost}, searched(blocks, p, q, lost))
			}
		}
	}
}

// TestP79AllPairsOfSums has all P and Q of three blocks, two of which are lost.
func TestP79AllPairsOfSums(t *testing.T) {
	for p := range 256 {
		for q := range 256 {
			c := call{"Mend", []string{"?", "m", "?"}, string([]byte{byte(p)}), string([]byte{byte(q)}), []int{0, 2}}
			got, err := pair.Mend(c.blocks, c.p, c.q, c.lost)
			if err != api.OK || len(got) != 3 || got[1] != "m" {
				t.Fatalf("%#v = %#v, %d", c, got, err)
			}
			if gotP, gotQ := parity(got); gotP != c.p || gotQ != c.q {
				t.Fatalf("%#v = %#v, which have %q and %q", c, got, gotP, gotQ)
			}
		}
	}
}

// searched returns the first blocks of one byte that have p and q and differ
// only at two lost indices.
func searched(blocks []string, p, q string, lost []int) []string {
	rest := slices.Clone(blocks)
	for _, i := range lost {
		rest[i] = "\x00"
	}
	restP, restQ := parity(rest)
	for a := range 256 {
		b := p[0] ^ restP[0] ^ byte(a)
		if restQ[0]^doubled(byte(a), lost[0])^doubled(b, lost[1]) == q[0] {
			return replaced(replaced(blocks, string([]byte{byte(a)}), lost[0]), string([]byte{b}), lost[1])
		}
	}
	return nil
}

// TestP79LostContentsAreIgnored gives other bytes in place of the lost ones.
func TestP79LostContentsAreIgnored(t *testing.T) {
	next := numbers()
	for count := 1; count <= most; count++ {
		blocks := anyBlocks(count, 5, next)
		p, q := parity(blocks)
		for _, lost := range losses(count) {
			for _, block := range []string{"\x00\x00\x00\x00\x00", "\xff\xff\xff\xff\xff", "?????", blocks[0], p, q} {
				checkMend(t, call{"Mend", replaced(blocks, block, lost...), p, q, lost}, blocks)
			}
		}
	}
}

// TestP79OneLostByteOfSums has one lost block of one byte, and any Q: only one
// agrees.
func TestP79OneLostByteOfSums(t *testing.T) {
	next := numbers()
	for count := 1; count <= most; count++ {
		for i := range count {
			blocks := anyBlocks(count, 1, next)
			p, right := parity(blocks)
			for b := range 256 {
				q := string([]byte{byte(b)})
				got, err := pair.Mend(replaced(blocks, "?", i), p, q, []int{i})
				if q == right && (err != api.OK || !slices.Equal(got, blocks)) {
					t.Errorf("Mend of block %d of %q = %q, %d", i, blocks, got, err)
				}
				if q != right && (err != api.ErrSum || len(got) != 0) {
					t.Errorf("Mend of block %d of %q with Q %q = %q, %d", i, blocks, q, got, err)
				}
			}
		}
	}
}

// TestP79OneByteAtEveryPositionIsSeen changes one byte at any position of P, of
// Q or of a block that is not lost.
func TestP79OneByteAtEveryPositionIsSeen(t *testing.T) {
	next := numbers()
	blocks := anyBlocks(3, longest, next)
	p, q := parity(blocks)
	for at := range longest {
		for _, lost := range [][]int{nil, {0}, {1}, {2}} {
			for _, c := range []call{
				{"Mend", blocks, changed(p, at, next), q, lost},
				{"Mend", blocks, p, changed(q, at, next), lost},
			} {
				if got := c.do(); got.err != api.ErrSum {
					t.Errorf("%#v = %#v, want error %d", c, got, api.ErrSum)
				}
			}
			for i := range blocks {
				if slices.Contains(lost, i) {
					continue
				}
				c := call{"Mend", replaced(blocks, changed(blocks[i], at, next), i), p, q, lost}
				if got := c.do(); got.err != api.ErrSum {
					t.Errorf("%#v = %#v, want error %d", c, got, api.ErrSum)
				}
			}
		}
	}
}

// TestP79PutComesBack puts what Mend returns: P and Q are as they were, and so
// are all blocks but the lost ones.
func TestP79PutComesBack(t *testing.T) {
	next := numbers()
	for count := 2; count <= most; count++ {
		for _, length := range lengths() {
			blocks := anyBlocks(count, length, next)
			p, q := anyBlock(length, next), anyBlock(length, next)
			for _, lost := range losses(count) {
				if len(lost) != 2 {
					continue
				}
				got, err := pair.Mend(blocks, p, q, lost)
				if err != api.OK || len(got) != count {
					t.Fatalf("Mend(%q, %q, %q, %v) = %q, %d", blocks, p, q, lost, got, err)
				}
				checkPut(t, got, p, q)
				for i := range blocks {
					if got[i] != blocks[i] && !slices.Contains(lost, i) {
						t.Errorf("Mend(%q, %q, %q, %v) changes block %d", blocks, p, q, lost, i)
					}
				}
			}
		}
	}
}

func TestP79Errors(t *testing.T) {
	for _, w := range slices.Concat(wrongMends(), wrongSums()) {
		if got, err := pair.Mend(w.blocks, w.p, w.q, w.lost); len(got) != 0 || err != w.err {
			t.Errorf("Mend(%q, %q, %q, %v) = %q, %d, want error %d", w.blocks, w.p, w.q, w.lost, got, err, w.err)
		}
	}
}
