package massey_test

import (
	"math/bits"
	"slices"
	"testing"

	"wholemend/api"
	"wholemend/massey"
)

const most = api.MaxTape

// tooMany are more bits than a sequence may have.
var tooMany = []int{most + 1, most + 2, 64, 65, 2 * most, 255, 256, 257, 256 + most, 1<<16 + 1, 1<<16 + most}

// numbers returns a function for numbers from 0 to below - 1, always the same.
func numbers() func(below int) int {
	seed := uint32(1)
	return func(below int) int {
		seed = seed*1664525 + 1013904223
		return int(seed>>8) % below
	}
}

// anyBits returns some sequence of so many bits.
func anyBits(count int, next func(below int) int) []byte {
	l := make([]byte, count)
	for i := range l {
		l[i] = byte(next(2))
	}
	return l
}

// allBits returns all sequences of so many bits.
func allBits(count int) [][]byte {
	all := make([][]byte, 1<<count)
	for number := range all {
		all[number] = make([]byte, count)
		for i := range count {
			all[number][i] = byte(number >> i & 1)
		}
	}
	return all
}

// upTo returns all sequences of up to so many bits.
func upTo(count int) [][]byte {
	var all [][]byte
	for n := range count + 1 {
		all = append(all, allBits(n)...)
	}
	return all
}

// repeated returns the sequence that has a bit so often.
func repeated(bit byte, count int) []byte {
	return slices.Repeat([]byte{bit}, count)
}

// single returns the sequence of so many bits with a 1 at place i alone.
func single(i, count int) []byte {
	l := make([]byte, count)
	l[i] = 1
	return l
}

// otherAt returns the sequence with another byte at place i.
func otherAt(l []byte, i int, b byte) []byte {
	l = slices.Clone(l)
	l[i] = b
	return l
}

// pairs counts the places where the rule has a 1 and so has the bit of l that
// belongs to it.
func pairs(l, rule []byte) int {
	count := 0
	for i := range rule {
		if rule[i] == 1 && l[len(l)-i-1] == 1 {
			count++
		}
	}
	return count
}

// continued returns the sequence of so many bits that begins with start and
// goes on by the rule.
func continued(start, rule []byte, count int) []byte {
	l := slices.Clone(start)
	for len(l) < count {
		l = append(l, byte(pairs(l, rule)%2))
	}
	return l[:count]
}

// call is one of a function, with its arguments.
type call struct {
	name    string
	l, rule []byte
}

// result of a call.
type result struct {
	bit  byte
	rule []byte
	err  api.Errno
}

func (r result) equal(other result) bool {
	return r.bit == other.bit && r.err == other.err && slices.Equal(r.rule, other.rule)
}

// do returns what the function returns.
func (c call) do() result {
	switch c.name {
	case "Check":
		return result{err: massey.Check(c.l)}
	case "Next":
		bit, err := massey.Next(c.l, c.rule)
		return result{bit: bit, err: err}
	}
	rule, err := massey.Rule(c.l)
	return result{rule: rule, err: err}
}

// sequences are some of every length, and of all kinds.
func sequences() [][]byte {
	next := numbers()
	var all [][]byte
	for count := range most + 1 {
		all = append(all, repeated(0, count), repeated(1, count), anyBits(count, next), anyBits(count, next))
		for i := range count {
			all = append(all, single(i, count), otherAt(repeated(1, count), i, 0))
		}
		for length := range count + 1 {
			rule := anyBits(length, next)
			made := continued(anyBits(length, next), rule, count)
			all = append(all, made)
			if count > 0 {
				i := next(count)
				all = append(all, otherAt(made, i, 1-made[i]), otherAt(made, count-1, 1-made[count-1]))
			}
		}
	}
	return all
}

// wrong is a sequence that is not allowed.
type wrong struct {
	l   []byte
	err api.Errno
}

// wrongs are some of these, with what is wrong first.
func wrongs() []wrong {
	next := numbers()
	var list []wrong
	for _, count := range tooMany {
		// Too many elements go before one that is no bit.
		list = append(list, wrong{anyBits(count, next), api.ErrLarge})
		for _, b := range []byte{0, 1, 2, '0', '1', 255} {
			list = append(list, wrong{repeated(b, count), api.ErrLarge})
		}
		for _, i := range []int{0, most - 1, most, count - 1} {
			list = append(list, wrong{otherAt(anyBits(count, next), i, 2), api.ErrLarge})
		}
	}
	for count := 1; count <= most; count++ {
		for _, b := range []byte{2, 3, 4, 127, 128, 129, 254, 255, '0', '1'} {
			list = append(list, wrong{repeated(b, count), api.ErrArg})
			for i := range count {
				list = append(list, wrong{otherAt(anyBits(count, next), i, b), api.ErrArg})
			}
		}
	}
	for b := 2; b < 256; b++ {
		list = append(list, wrong{[]byte{byte(b)}, api.ErrArg}, wrong{[]byte{1, 0, byte(b), 0, 1}, api.ErrArg})
	}
	return list
}

// wrongPair is a sequence and a rule that Next does not allow.
type wrongPair struct {
	l, rule []byte
	err     api.Errno
}

// wrongPairs are some of these, with what is wrong first.
func wrongPairs() []wrongPair {
	next := numbers()
	var list []wrongPair
	for _, w := range wrongs() {
		// What is wrong with the sequence goes before all else.
		for _, rule := range [][]byte{nil, {1}, {2}, repeated(1, most), repeated(1, most+1), repeated(2, most+1)} {
			list = append(list, wrongPair{w.l, rule, w.err})
		}
		// What is wrong with the rule goes before that it is longer.
		for _, l := range [][]byte{nil, {1}, repeated(0, most-1), repeated(1, most)} {
			list = append(list, wrongPair{l, w.l, w.err})
		}
	}
	for count := range most {
		for length := count + 1; length <= most; length++ {
			list = append(list, wrongPair{anyBits(count, next), anyBits(length, next), api.ErrShort},
				wrongPair{repeated(1, count), repeated(0, length), api.ErrShort},
				wrongPair{repeated(1, count), single(0, length), api.ErrShort})
		}
	}
	return list
}

// calls are those of all functions, with right and wrong arguments.
func calls() []call {
	next := numbers()
	var list []call
	for _, l := range sequences() {
		rule := anyBits(next(len(l)+1), next)
		list = append(list, call{"Check", l, nil}, call{"Rule", l, nil}, call{"Next", l, rule}, call{"Next", l, l})
	}
	for _, w := range wrongs() {
		list = append(list, call{"Check", w.l, nil}, call{"Rule", w.l, nil})
	}
	for _, w := range wrongPairs() {
		list = append(list, call{"Next", w.l, w.rule})
	}
	return append(list, call{"Check", nil, nil}, call{"Rule", nil, nil}, call{"Next", nil, nil},
		call{"Check", []byte{}, nil}, call{"Rule", []byte{}, nil}, call{"Next", []byte{}, []byte{}})
}

func TestP1NoArgumentPanics(t *testing.T) {
	for _, c := range calls() {
		func() {
			defer func() {
				if r := recover(); r != nil {
					t.Errorf("%v panics: %v", c, r)
				}
			}()
			c.do()
		}()
	}
}

func TestP2ResultsDependOnlyOnArguments(t *testing.T) {
	list := calls()
	first := make([]result, len(list))
	for i, c := range list {
		first[i] = c.do()
	}
	check := func(i int) {
		if got := list[i].do(); !got.equal(first[i]) {
			t.Errorf("%v: first %v, then %v", list[i], first[i], got)
		}
	}
	for i := range list {
		check(i)
	}
	// Nor does it count which calls come before, or where the arguments are.
	for i, c := range slices.Backward(list) {
		list[i] = call{c.name, slices.Concat(c.l, repeated(1, 5))[:len(c.l)], slices.Clone(c.rule)}
		check(i)
	}
}

func TestP2OtherResultsAreZeroWithAnError(t *testing.T) {
	for _, c := range calls() {
		if got := c.do(); got.err != api.OK && (got.bit != 0 || len(got.rule) != 0) {
			t.Errorf("%v = %v", c, got)
		}
	}
}

func TestP2ArgumentsStayAsTheyAre(t *testing.T) {
	withMore := func(l []byte) []byte {
		return append(slices.Clone(l), repeated(0xa5, 2*most)...)[:len(l)]
	}
	for _, c := range calls() {
		c.l, c.rule = withMore(c.l), withMore(c.rule)
		l, rule := slices.Clone(c.l[:cap(c.l)]), slices.Clone(c.rule[:cap(c.rule)])
		c.do()
		if !slices.Equal(c.l[:cap(c.l)], l) || !slices.Equal(c.rule[:cap(c.rule)], rule) {
			t.Errorf("%s changes its arguments %v, %v", c.name, l[:len(c.l)], rule[:len(c.rule)])
		}
	}
}

// spoil writes to all memory behind a slice.
func spoil(l []byte) {
	l = l[:cap(l)]
	for i := range l {
		l[i] ^= 0xa5
	}
}

func TestP2ResultsAreNewMemory(t *testing.T) {
	for _, l := range sequences() {
		l = append(slices.Clone(l), make([]byte, 2*most)...)[:len(l)]
		before := slices.Clone(l[:cap(l)])
		first, err := massey.Rule(l)
		second, _ := massey.Rule(l)
		if err != api.OK {
			t.Fatalf("Rule(%v) has error %d", l, err)
		}
		want := slices.Clone(second)
		spoil(first)
		if !slices.Equal(l[:cap(l)], before) {
			t.Fatalf("Rule(%v) shares its result with its argument", before[:len(l)])
		}
		if !slices.Equal(second, want) {
			t.Fatalf("Rule(%v) shares its result with another one", l)
		}
		if third, _ := massey.Rule(l); !slices.Equal(third, want) {
			t.Fatalf("Rule(%v) keeps its result", l)
		}
	}
}

// TestP2ArgumentsAreNotRetained writes other bits to the memory that an earlier
// call had.
func TestP2ArgumentsAreNotRetained(t *testing.T) {
	for _, l := range sequences() {
		l = slices.Clone(l)
		first, _ := massey.Rule(l)
		want := slices.Clone(first)
		for i := range l {
			l[i] = 1 - l[i]
		}
		if !slices.Equal(first, want) {
			t.Fatalf("Rule returns memory of its argument, which is now %v", l)
		}
		got := call{"Rule", l, nil}.do()
		if other := (call{"Rule", slices.Clone(l), nil}).do(); !got.equal(other) {
			t.Fatalf("Rule(%v) = %v, but %v in other memory", l, got, other)
		}
		got = call{"Next", l, l}.do()
		if other := (call{"Next", slices.Clone(l), slices.Clone(l)}).do(); !got.equal(other) {
			t.Fatalf("Next(%v, %v) = %v, but %v in other memory", l, l, got, other)
		}
	}
}

func TestP75Check(t *testing.T) {
	for _, l := range slices.Concat([][]byte{nil, {}}, upTo(12), sequences()) {
		if err := massey.Check(l); err != api.OK {
			t.Errorf("Check(%v) = %d", l, err)
		}
	}
}

func TestP75Errors(t *testing.T) {
	for _, w := range wrongs() {
		if err := massey.Check(w.l); err != w.err {
			t.Errorf("Check(%v) = %d, want %d", w.l, err, w.err)
		}
	}
}

// checkNext checks a result of Next without an error.
func checkNext(t *testing.T, l, rule []byte, want byte) {
	t.Helper()
	if bit, err := massey.Next(l, rule); bit != want || err != api.OK {
		t.Errorf("Next(%v, %v) = %d, %d, want %d", l, rule, bit, err, want)
	}
}

func TestP76Next(t *testing.T) {
	for _, c := range []struct {
		l, rule []byte
		want    byte
	}{
		{nil, nil, 0},
		{[]byte{1}, nil, 0},
		{[]byte{1, 1, 1}, []byte{}, 0},
		{[]byte{1}, []byte{1}, 1},
		{[]byte{0}, []byte{1}, 0},
		{[]byte{1}, []byte{0}, 0},
		{[]byte{1, 0}, []byte{1}, 0},
		{[]byte{0, 1}, []byte{1}, 1},
		{[]byte{1, 0}, []byte{0, 1}, 1},
		{[]byte{0, 1}, []byte{0, 1}, 0},
		{[]byte{1, 1}, []byte{1, 1}, 0},
		{[]byte{1, 0}, []byte{1, 1}, 1},
		{[]byte{1, 1, 1}, []byte{1, 1, 1}, 1},
		{[]byte{1, 0, 0}, []byte{0, 0, 1}, 1},
		{[]byte{1, 0, 0}, []byte{1, 0, 0}, 0},
		{[]byte{1, 0, 1, 0, 1, 0}, []byte{0, 1}, 1},
		{[]byte{0, 1, 0, 1, 0, 1}, []byte{0, 1}, 0},
		{[]byte{0, 1, 1, 0, 1, 1}, []byte{1, 1}, 0},
		{[]byte{1, 1, 0, 1, 1, 0}, []byte{1, 1}, 1},
		{repeated(1, most), repeated(1, most), 0},
		{repeated(1, most), repeated(1, most-1), 1},
		{single(0, most), single(most-1, most), 1},
		{single(0, most), single(0, most), 0},
	} {
		checkNext(t, c.l, c.rule, c.want)
	}
}

// TestP76NextOfAllShort tries all short sequences with all rules.
func TestP76NextOfAllShort(t *testing.T) {
	short := upTo(7)
	for _, l := range short {
		for _, rule := range short {
			if len(rule) <= len(l) {
				checkNext(t, l, rule, byte(pairs(l, rule)%2))
			}
		}
	}
}

func TestP76NextOfEveryLength(t *testing.T) {
	next := numbers()
	for count := range most + 1 {
		for length := range count + 1 {
			for range 5 {
				l, rule := anyBits(count, next), anyBits(length, next)
				checkNext(t, l, rule, byte(pairs(l, rule)%2))
			}
		}
	}
}

// TestP76OneBitOfTheRule takes rules with a single 1, which choose one bit.
func TestP76OneBitOfTheRule(t *testing.T) {
	next := numbers()
	for count := 1; count <= most; count++ {
		l := anyBits(count, next)
		for length := 1; length <= count; length++ {
			for i := range length {
				checkNext(t, l, single(i, length), l[count-i-1])
				checkNext(t, single(count-i-1, count), repeated(1, length), 1)
				checkNext(t, single(count-i-1, count), otherAt(repeated(1, length), i, 0), 0)
			}
		}
	}
}

func TestP76Errors(t *testing.T) {
	for _, w := range wrongPairs() {
		if bit, err := massey.Next(w.l, w.rule); bit != 0 || err != w.err {
			t.Errorf("Next(%v, %v) = %d, %d, want error %d", w.l, w.rule, bit, err, w.err)
		}
	}
}

// holds tells whether a rule determines each bit of l that has enough before it.
func holds(l, rule []byte) bool {
	for i := len(rule); i < len(l); i++ {
		if byte(pairs(l[:i], rule)%2) != l[i] {
			return false
		}
	}
	return true
}

// searched returns how many bits a shortest rule for l has, by trying all.
func searched(l []byte, rules [][]byte) int {
	for _, rule := range rules {
		if holds(l, rule) {
			return len(rule)
		}
	}
	return len(l)
}

// solvable tells, by Gaussian elimination, whether there is a rule of so many
// bits for l. It has one equation for each bit that has enough before it.
func solvable(l []byte, length int) bool {
	var rows []uint64
	for i := length; i < len(l); i++ {
		row := uint64(l[i])
		for j := range length {
			row |= uint64(l[i-j-1]) << (j + 1)
		}
		for _, other := range rows {
			row = min(row, row^other)
		}
		if row == 1 {
			return false
		}
		if row != 0 {
			rows = append(rows, row)
			slices.SortFunc(rows, func(a, b uint64) int { return bits.Len64(b) - bits.Len64(a) })
		}
	}
	return true
}

// solved returns how many bits a shortest rule for l has, by Gaussian
// elimination.
func solved(l []byte) int {
	length := 0
	for !solvable(l, length) {
		length++
	}
	return length
}

// checkRule checks that Rule returns some rule of so many bits.
func checkRule(t *testing.T, l []byte, length int) {
	t.Helper()
	rule, err := massey.Rule(l)
	if err != api.OK || len(rule) != length {
		t.Errorf("Rule(%v) = %v, %d, want %d bits", l, rule, err, length)
		return
	}
	if slices.ContainsFunc(rule, func(b byte) bool { return b > 1 }) || !holds(l, rule) {
		t.Errorf("Rule(%v) = %v, which is no rule for it", l, rule)
	}
}

// checkOnly checks that Rule returns this rule.
func checkOnly(t *testing.T, l, want []byte) {
	t.Helper()
	if rule, err := massey.Rule(l); err != api.OK || !slices.Equal(rule, want) {
		t.Errorf("Rule(%v) = %v, %d, want %v", l, rule, err, want)
	}
}

// TestP77Rule has sequences with one shortest rule.
func TestP77Rule(t *testing.T) {
	for _, c := range []struct{ l, want []byte }{
		{nil, nil},
		{[]byte{}, nil},
		{[]byte{0}, nil},
		{[]byte{0, 0}, nil},
		{repeated(0, most), nil},
		{[]byte{1, 1}, []byte{1}},
		{[]byte{1, 0}, []byte{0}},
		{[]byte{1, 0, 0, 0}, []byte{0}},
		{repeated(1, most), []byte{1}},
		{single(0, most), []byte{0}},
		{[]byte{1, 0, 1, 0, 1, 0}, []byte{0, 1}},
		{[]byte{0, 1, 0, 1}, []byte{0, 1}},
		{[]byte{0, 1, 1, 0, 1, 1}, []byte{1, 1}},
		{[]byte{0, 1, 1, 1, 1}, []byte{1, 0}},
		{[]byte{0, 1, 0, 0, 0}, []byte{0, 0}},
		{[]byte{0, 0, 1, 0, 0, 1}, []byte{0, 0, 1}},
		{[]byte{0, 0, 1, 0, 1, 1, 1}, []byte{0, 1, 1}},
		{[]byte{0, 0, 1, 1, 1, 0, 1}, []byte{1, 0, 1}},
	} {
		checkOnly(t, c.l, c.want)
	}
}

// TestP77RuleIsOneOfSeveral has sequences with several shortest rules.
func TestP77RuleIsOneOfSeveral(t *testing.T) {
	for _, c := range []struct {
		l      []byte
		length int
	}{
		{[]byte{1}, 1},
		{[]byte{0, 1}, 2},
		{[]byte{0, 0, 1}, 3},
		{[]byte{0, 0, 0, 1}, 4},
		{[]byte{0, 0, 0, 1, 1}, 4},
		{[]byte{1, 1, 0}, 2},
		{[]byte{1, 0, 1}, 2},
		{[]byte{1, 1, 1, 1, 0}, 4},
		{[]byte{1, 0, 0, 0, 0, 1}, 5},
		{single(most-1, most), most},
		{otherAt(repeated(1, most), most-1, 0), most - 1},
	} {
		checkRule(t, c.l, c.length)
	}
}

// TestP77RuleOfAllShort compares with a search among all rules.
func TestP77RuleOfAllShort(t *testing.T) {
	rules := upTo(12)
	for _, l := range upTo(12) {
		checkRule(t, l, searched(l, rules))
	}
}

// TestP77RuleOfMoreShort compares with Gaussian elimination, which is faster.
func TestP77RuleOfMoreShort(t *testing.T) {
	for _, l := range upTo(14) {
		checkRule(t, l, solved(l))
	}
}

// TestP77SearchAndEliminationAgree checks the tests.
func TestP77SearchAndEliminationAgree(t *testing.T) {
	rules := upTo(10)
	for _, l := range upTo(10) {
		if solved(l) != searched(l, rules) {
			t.Errorf("%v: %d by elimination, %d by a search", l, solved(l), searched(l, rules))
		}
	}
}

func TestP77RuleOfEveryLength(t *testing.T) {
	for _, l := range sequences() {
		checkRule(t, l, solved(l))
	}
	next := numbers()
	for count := range most + 1 {
		for range 20 {
			l := anyBits(count, next)
			checkRule(t, l, solved(l))
		}
	}
}

// TestP77RuleOfSparseSequences takes sequences that are mostly 0, and so have
// long runs without a wrong bit.
func TestP77RuleOfSparseSequences(t *testing.T) {
	next := numbers()
	for ones := 1; ones <= 6; ones++ {
		for range 200 {
			l := make([]byte, most)
			for range ones {
				l[next(most)] = 1
			}
			checkRule(t, l, solved(l))
		}
	}
	for i := range most {
		for j := range i {
			l := single(i, most)
			l[j] = 1
			checkRule(t, l, solved(l))
		}
	}
}

// TestP77RuleIsFoundAgain makes sequences by a rule, from a 1 after as many 0s
// as there can be: no other rule makes twice as many bits, or more.
func TestP77RuleIsFoundAgain(t *testing.T) {
	for _, rule := range upTo(10) {
		checkFoundAgain(t, rule, 2*len(rule))
		checkFoundAgain(t, rule, 2*len(rule)+3)
	}
	next := numbers()
	for length := 1; 2*length <= most; length++ {
		list := [][]byte{repeated(0, length), repeated(1, length)}
		for i := range length {
			list = append(list, single(i, length), anyBits(length, next))
		}
		for _, rule := range list {
			for count := 2 * length; count <= most; count++ {
				checkFoundAgain(t, rule, count)
			}
		}
	}
}

func checkFoundAgain(t *testing.T, rule []byte, count int) {
	t.Helper()
	if len(rule) == 0 {
		checkOnly(t, make([]byte, count), nil)
		return
	}
	checkOnly(t, continued(single(len(rule)-1, len(rule)), rule, count), rule)
}

// TestP77LongestPeriods takes rules that repeat as late as they can, by known
// primitive polynomials: any start but 0s leads to the same rule.
func TestP77LongestPeriods(t *testing.T) {
	for _, rule := range [][]byte{
		{1, 1}, {0, 1, 1}, {1, 0, 1}, {0, 0, 1, 1}, {1, 0, 0, 1}, {0, 0, 1, 0, 1}, {0, 1, 0, 0, 1}, {0, 0, 0, 0, 1, 1},
		{0, 0, 0, 0, 0, 1, 1}, {0, 0, 0, 1, 1, 1, 0, 1},
	} {
		for _, start := range allBits(len(rule))[1:] {
			for count := 2 * len(rule); count <= most; count++ {
				checkOnly(t, continued(start, rule, count), rule)
			}
		}
	}
}

// TestP77RulesGrowSteadily takes the sequence with a 1 at each place that is one
// less than a power of two: its rules grow by one bit with every second bit.
func TestP77RulesGrowSteadily(t *testing.T) {
	l := make([]byte, most)
	for i := 1; i <= most; i *= 2 {
		l[i-1] = 1
	}
	for count := range most + 1 {
		checkRule(t, l[:count], (count+1)/2)
	}
}

// TestP77RulesGrowAsTheyMust follows sequences bit by bit: if the next bit isn't
// the one that the rule makes, the rule needs as many bits as Massey's theorem
// says, and otherwise it stays as long as it was.
func TestP77RulesGrowAsTheyMust(t *testing.T) {
	next := numbers()
	for range 300 {
		l := anyBits(most, next)
		length := 0
		for i := range l {
			rule, err := massey.Rule(l[:i])
			if err != api.OK {
				t.Fatalf("Rule(%v) has error %d", l[:i], err)
			}
			if byte(pairs(l[:i], rule)%2) != l[i] {
				length = max(length, i+1-length)
			}
			checkRule(t, l[:i+1], length)
		}
	}
}

// TestP77NextGoesByRule makes a sequence again from its start and its rule.
func TestP77NextGoesByRule(t *testing.T) {
	for _, l := range sequences() {
		rule, err := massey.Rule(l)
		if err != api.OK {
			t.Fatalf("Rule(%v) has error %d", l, err)
		}
		for i := len(rule); i < len(l); i++ {
			checkNext(t, l[:i], rule, l[i])
		}
	}
}

func TestP77Errors(t *testing.T) {
	for _, w := range wrongs() {
		if rule, err := massey.Rule(w.l); len(rule) != 0 || err != w.err {
			t.Errorf("Rule(%v) = %v, %d, want error %d", w.l, rule, err, w.err)
		}
	}
}
