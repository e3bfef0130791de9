package linear_test

import (
	"math"
	"slices"
	"testing"

	"wholemend/api"
	"wholemend/linear"
)

const (
	widest = api.MaxWidth
	most   = api.MaxRows
)

// code is one with words of n bits, by its generators.
type code struct {
	n int
	l []uint16
}

// wrong is a code that no function allows.
type wrong struct {
	code
	err api.Errno
}

// numbers returns a function for numbers from 0 to below - 1, always the same.
func numbers() func(below int) int {
	seed := uint32(1)
	return func(below int) int {
		seed = seed*1664525 + 1013904223
		return int(seed>>8) % below
	}
}

// lists visits all lists with so many words of n bits.
func lists(n, count int, visit func(l []uint16)) {
	for s := range 1 << (n * count) {
		l := make([]uint16, count)
		for i := range l {
			l[i] = uint16(s >> (n * i) & (1<<n - 1))
		}
		visit(l)
	}
}

// anyCode returns a code with so many generators, of which some may be 0,
// equal, or sums of others.
func anyCode(n, count int, next func(below int) int) code {
	l := make([]uint16, count)
	for i := range l {
		switch next(6) {
		case 0:
			for _, word := range l[:i] {
				l[i] ^= word * uint16(next(2))
			}
		case 1:
			if i > 0 {
				l[i] = l[next(i)]
			}
		default:
			l[i] = uint16(next(1 << n))
		}
	}
	return code{n, l}
}

// fullCode returns a code with so many generators, none of which is a sum of
// others.
func fullCode(n, count int, next func(below int) int) code {
	var l []uint16
	for len(l) < count {
		word := uint16(next(1 << n))
		if !slices.Contains(sums(l), word) {
			l = append(l, word)
		}
	}
	return code{n, l}
}

// rights are codes that all functions allow, but for the errors of Far and Dual
// alone: all small ones, and some of every size.
func rights() []code {
	var all []code
	for i, longest := range []int{6, 6, 4, 3, 2, 1, 1} {
		n := i + 1
		for count := range longest + 1 {
			lists(n, count, func(l []uint16) { all = append(all, code{n, l}) })
		}
	}
	next := numbers()
	for n := 1; n <= widest; n++ {
		for count := range most + 1 {
			all = append(all, code{n, make([]uint16, count)}, code{n, slices.Repeat([]uint16{1<<n - 1}, count)})
			for range 15 {
				all = append(all, anyCode(n, count, next), fullCode(n, min(n, count), next))
			}
		}
	}
	return all
}

// badWidths are numbers of bits that no function allows.
var badWidths = []int{
	math.MinInt, math.MinInt + 1, math.MinInt32 - 1, math.MinInt32, -api.MaxInt, -65536, -13, -12, -2, -1, 0,
	13, 14, 15, 16, 17, 31, 32, 63, 64, 65, 255, 256, 257, 268, 65535, 65537, api.MaxInt,
	math.MaxInt32, 1<<32 + 1, 1<<32 + 12, math.MaxInt - 1, math.MaxInt,
}

// tooWide returns words of more than n bits.
func tooWide(n int) []uint16 {
	l := []uint16{math.MaxUint16}
	for high := n; high < 16; high++ {
		l = append(l, 1<<high, 1<<high+1, 1<<high+1<<(n-1), 1<<high+1<<n-1)
	}
	return l
}

// wrongs are codes that no function allows, with what is wrong first.
func wrongs() []wrong {
	var all []wrong
	add := func(n int, l []uint16, err api.Errno) {
		all = append(all, wrong{code{n, l}, err})
	}
	for _, n := range badWidths {
		for _, l := range [][]uint16{nil, {0}, {1}, {math.MaxUint16}, {1, 2, 3, 4, 5, 6}, make([]uint16, most+1)} {
			add(n, l, api.ErrArg)
		}
	}
	next := numbers()
	for n := 1; n <= widest; n++ {
		for _, count := range []int{most + 1, most + 2, 12, 64, 255, 256, 256 + most, 65536, 65536 + most} {
			add(n, make([]uint16, count), api.ErrLarge)
			// Too many are too many before one of them is too wide.
			add(n, slices.Repeat([]uint16{1 << n}, count), api.ErrLarge)
		}
		for _, word := range tooWide(n) {
			for count := 1; count <= most; count++ {
				for i := range count {
					l := anyCode(n, count, next).l
					l[i] = word
					add(n, l, api.ErrForm)
				}
			}
			add(n, slices.Repeat([]uint16{word}, most), api.ErrForm)
		}
	}
	return all
}

// codes are those above, right and wrong.
func codes() []code {
	all := rights()
	for _, w := range wrongs() {
		all = append(all, w.code)
	}
	return all
}

// ones counts the 1 bits of a word.
func ones(word uint16) int {
	count := 0
	for k := range 16 {
		count += int(word >> k & 1)
	}
	return count
}

// sums returns the sums of all subsets of l, each once, in increasing order.
func sums(l []uint16) []uint16 {
	found := make([]bool, 1<<widest)
	for subset := range 1 << len(l) {
		sum := uint16(0)
		for i, word := range l {
			if subset>>i&1 == 1 {
				sum ^= word
			}
		}
		found[sum] = true
	}
	var all []uint16
	for word, is := range found {
		if is {
			all = append(all, uint16(word))
		}
	}
	return all
}

// outcome is what a function returns.
type outcome struct {
	words  []uint16
	counts []int
	far    int
	err    api.Errno
}

func (o outcome) equal(other outcome) bool {
	return slices.Equal(o.words, other.words) && slices.Equal(o.counts, other.counts) &&
		o.far == other.far && o.err == other.err
}

func (o outcome) clone() outcome {
	return outcome{slices.Clone(o.words), slices.Clone(o.counts), o.far, o.err}
}

// spoil writes to all memory behind the outcome.
func (o outcome) spoil() {
	words, counts := o.words[:cap(o.words)], o.counts[:cap(o.counts)]
	for i := range words {
		words[i] ^= math.MaxUint16
	}
	for i := range counts {
		counts[i] ^= -1
	}
}

// function is one of the package.
type function struct {
	name string
	do   func(c code) outcome
}

// functions are all of the package.
func functions() []function {
	return []function{
		{"Check", func(c code) outcome {
			return outcome{err: linear.Check(c.n, c.l)}
		}},
		{"Words", func(c code) outcome {
			words, err := linear.Words(c.n, c.l)
			return outcome{words: words, err: err}
		}},
		{"Base", func(c code) outcome {
			words, err := linear.Base(c.n, c.l)
			return outcome{words: words, err: err}
		}},
		{"Weights", func(c code) outcome {
			counts, err := linear.Weights(c.n, c.l)
			return outcome{counts: counts, err: err}
		}},
		{"Far", func(c code) outcome {
			far, err := linear.Far(c.n, c.l)
			return outcome{far: far, err: err}
		}},
		{"Dual", func(c code) outcome {
			words, err := linear.Dual(c.n, c.l)
			return outcome{words: words, err: err}
		}},
	}
}

// eachCall visits the calls of all functions with the codes.
func eachCall(codes []code, visit func(f function, c code)) {
	for _, f := range functions() {
		for _, c := range codes {
			visit(f, c)
		}
	}
}

func TestP1NoArgumentPanics(t *testing.T) {
	eachCall(codes(), func(f function, c code) {
		defer func() {
			if r := recover(); r != nil {
				t.Errorf("%s(%d, %v) panics: %v", f.name, c.n, c.l, r)
			}
		}()
		f.do(c)
	})
}

func TestP2ResultsDependOnlyOnArguments(t *testing.T) {
	type visited struct {
		f     function
		c     code
		first outcome
	}
	var calls []visited
	eachCall(codes(), func(f function, c code) {
		calls = append(calls, visited{f, c, f.do(c).clone()})
	})
	check := func(v visited) {
		if again := v.f.do(v.c); !again.equal(v.first) {
			t.Errorf("%s(%d, %v): first %v, then %v", v.f.name, v.c.n, v.c.l, v.first, again)
		}
	}
	for _, v := range calls {
		check(v)
	}
	// Nor does it count which calls come before.
	for _, v := range slices.Backward(calls) {
		check(v)
	}
}

func TestP2OtherResultsAreZeroWithAnError(t *testing.T) {
	eachCall(codes(), func(f function, c code) {
		if o := f.do(c); o.err != api.OK && !o.equal(outcome{err: o.err}) {
			t.Errorf("%s(%d, %v) = %v with an error", f.name, c.n, c.l, o)
		}
	})
}

func TestP2ArgumentsStayAsTheyAre(t *testing.T) {
	eachCall(codes(), func(f function, c code) {
		c.l = append(slices.Clone(c.l), 5, 6, 7)[:len(c.l)]
		want := slices.Clone(c.l[:cap(c.l)])
		f.do(c)
		if !slices.Equal(c.l[:cap(c.l)], want) {
			t.Errorf("%s(%d, %v) changes its argument", f.name, c.n, c.l)
		}
	})
}

// TestP2NilIsEmpty checks that a nil slice is as good as an empty one.
func TestP2NilIsEmpty(t *testing.T) {
	for _, f := range functions() {
		for n := -1; n <= widest+1; n++ {
			if x, y := f.do(code{n, nil}), f.do(code{n, []uint16{}}); !x.equal(y) {
				t.Errorf("%s(%d, nil) = %v, but %v for an empty slice", f.name, n, x, y)
			}
		}
	}
}

func TestP2ResultsAreNewMemory(t *testing.T) {
	eachCall(rights(), func(f function, c code) {
		c.l = slices.Clone(c.l)
		l := slices.Clone(c.l)
		first, second := f.do(c), f.do(c)
		want := second.clone()
		first.spoil()
		if !slices.Equal(c.l, l) {
			t.Fatalf("%s(%d, %v) shares its result with its argument", f.name, c.n, l)
		}
		if !second.equal(want) {
			t.Fatalf("%s(%d, %v) shares its result with another one", f.name, c.n, l)
		}
		if !f.do(c).equal(want) {
			t.Fatalf("%s(%d, %v) keeps its result", f.name, c.n, l)
		}
	})
}

// TestP2ArgumentsAreNotRetained writes other words to the memory of those that
// an earlier call had.
func TestP2ArgumentsAreNotRetained(t *testing.T) {
	next := numbers()
	eachCall(rights(), func(f function, c code) {
		c.l = slices.Clone(c.l)
		first := f.do(c)
		want := first.clone()
		copy(c.l, anyCode(c.n, len(c.l), next).l)
		if !first.equal(want) {
			t.Fatalf("%s returns memory of its argument", f.name)
		}
		got, apart := f.do(c), f.do(code{c.n, slices.Clone(c.l)})
		if !got.equal(apart) {
			t.Fatalf("%s(%d, %v) = %v, but %v in other memory", f.name, c.n, c.l, got, apart)
		}
	})
}

// checkWrongs checks that a function has the errors of Check.
func checkWrongs(t *testing.T, name string) {
	t.Helper()
	for _, f := range functions() {
		if f.name != name {
			continue
		}
		for _, w := range wrongs() {
			if o := f.do(w.code); !o.equal(outcome{err: w.err}) {
				t.Errorf("%s(%d, %v) = %v, want error %d", name, w.n, w.l, o, w.err)
			}
		}
	}
}

func TestP59Check(t *testing.T) {
	for _, c := range rights() {
		if err := linear.Check(c.n, c.l); err != api.OK {
			t.Errorf("Check(%d, %v) = %d", c.n, c.l, err)
		}
	}
}

// TestP59CheckOfAllWords checks every word for every number of bits.
func TestP59CheckOfAllWords(t *testing.T) {
	for n := 1; n <= widest; n++ {
		for word := range 1 << 16 {
			want := api.OK
			if word >= 1<<n {
				want = api.ErrForm
			}
			if err := linear.Check(n, []uint16{uint16(word)}); err != want {
				t.Fatalf("Check(%d, [%d]) = %d, want %d", n, word, err, want)
			}
		}
	}
}

func TestP59Errors(t *testing.T) {
	checkWrongs(t, "Check")
}

func TestP60Words(t *testing.T) {
	for _, c := range []struct {
		n    int
		l    []uint16
		want []uint16
	}{
		{3, []uint16{7}, []uint16{0, 7}},
		{3, []uint16{3, 5, 6}, []uint16{0, 3, 5, 6}},
		{1, nil, []uint16{0}},
		{1, []uint16{0}, []uint16{0}},
		{1, []uint16{1}, []uint16{0, 1}},
		{1, []uint16{1, 1, 1, 1, 1, 1}, []uint16{0, 1}},
		{12, nil, []uint16{0}},
		{12, []uint16{4095}, []uint16{0, 4095}},
		{12, []uint16{2048, 1}, []uint16{0, 1, 2048, 2049}},
		{12, []uint16{4095, 4094, 4093}, []uint16{0, 1, 2, 3, 4092, 4093, 4094, 4095}},
		{4, []uint16{9, 9}, []uint16{0, 9}},
		{4, []uint16{9, 0, 12}, []uint16{0, 5, 9, 12}},
		{3, []uint16{4, 2, 1}, []uint16{0, 1, 2, 3, 4, 5, 6, 7}},
	} {
		if words, err := linear.Words(c.n, c.l); err != api.OK || !slices.Equal(words, c.want) {
			t.Errorf("Words(%d, %v) = %v, %d, want %v", c.n, c.l, words, err, c.want)
		}
	}
}

func TestP60WordsAreTheSums(t *testing.T) {
	for _, c := range rights() {
		want := sums(c.l)
		if words, err := linear.Words(c.n, c.l); err != api.OK || !slices.Equal(words, want) {
			t.Errorf("Words(%d, %v) = %v, %d, want %v", c.n, c.l, words, err, want)
		}
	}
}

// TestP60AllWordsOfSixBits checks the largest number of code words.
func TestP60AllWordsOfSixBits(t *testing.T) {
	words, err := linear.Words(6, []uint16{32, 48, 56, 60, 62, 63})
	if err != api.OK || len(words) != 64 {
		t.Fatalf("there are %d words, with error %d", len(words), err)
	}
	for i, word := range words {
		if int(word) != i {
			t.Errorf("word %d is %d", i, word)
		}
	}
}

func TestP60Errors(t *testing.T) {
	checkWrongs(t, "Words")
}

// checkBasis checks the properties that leave one reduced basis of the code
// with these words.
func checkBasis(t *testing.T, name string, c code, base, words []uint16) {
	t.Helper()
	if 1<<len(base) != len(words) || !slices.Equal(sums(base), words) {
		t.Errorf("%s(%d, %v) = %v, which does not give the words %v", name, c.n, c.l, base, words)
	}
	for i, word := range base {
		if i > 0 && word >= base[i-1] {
			t.Errorf("%s(%d, %v) = %v, which does not decrease", name, c.n, c.l, base)
		}
		high := uint16(1)
		for high <= word/2 {
			high *= 2
		}
		for j, other := range base {
			if i != j && other&high != 0 {
				t.Errorf("%s(%d, %v) = %v, where %d has the highest bit of %d", name, c.n, c.l, base, other, word)
			}
		}
	}
}

func TestP61Base(t *testing.T) {
	for _, c := range []struct {
		n    int
		l    []uint16
		want []uint16
	}{
		{3, []uint16{7}, []uint16{7}},
		{3, []uint16{3, 5, 6}, []uint16{5, 3}},
		{3, []uint16{7, 6}, []uint16{6, 1}},
		{3, []uint16{1, 2, 4}, []uint16{4, 2, 1}},
		{3, []uint16{7, 3, 1}, []uint16{4, 2, 1}},
		{1, nil, nil},
		{1, []uint16{0, 0}, nil},
		{1, []uint16{1, 1}, []uint16{1}},
		{12, []uint16{0, 4095, 0, 4095}, []uint16{4095}},
		{12, []uint16{1, 4095}, []uint16{4094, 1}},
		{12, []uint16{4095, 2047}, []uint16{2048, 2047}},
		{12, []uint16{4095, 2047, 1023, 511, 255, 127}, []uint16{2048, 1024, 512, 256, 128, 127}},
		{7, []uint16{7, 25, 42, 75}, []uint16{75, 42, 25, 7}},
		{8, []uint16{15, 51, 85, 255}, []uint16{150, 85, 51, 15}},
	} {
		if base, err := linear.Base(c.n, c.l); err != api.OK || !slices.Equal(base, c.want) {
			t.Errorf("Base(%d, %v) = %v, %d, want %v", c.n, c.l, base, err, c.want)
		}
	}
}

func TestP61BaseIsReduced(t *testing.T) {
	for _, c := range rights() {
		base, err := linear.Base(c.n, c.l)
		if err != api.OK {
			t.Errorf("Base(%d, %v) has error %d", c.n, c.l, err)
		}
		checkBasis(t, "Base", c, base, sums(c.l))
	}
}

// TestP61BaseIsThatOfTheCode checks that any generators of the code have the
// same basis.
func TestP61BaseIsThatOfTheCode(t *testing.T) {
	next := numbers()
	for _, c := range rights() {
		base, err := linear.Base(c.n, c.l)
		if again, other := linear.Base(c.n, base); err != api.OK || other != api.OK || !slices.Equal(again, base) {
			t.Errorf("Base(%d, %v) = %v, %d, but the basis of it is %v, %d", c.n, c.l, base, err, again, other)
		}
		l := slices.Clone(c.l)
		slices.Reverse(l)
		for i := range l {
			if j := next(len(l)); i != j {
				l[i] ^= l[j]
			}
		}
		if again, other := linear.Base(c.n, l); other != api.OK || !slices.Equal(again, base) {
			t.Errorf("Base(%d, %v) = %v, %d, but %v, %d of %v", c.n, c.l, base, err, again, other, l)
		}
	}
}

func TestP61Errors(t *testing.T) {
	checkWrongs(t, "Base")
}

func TestP62Weights(t *testing.T) {
	for _, c := range []struct {
		n    int
		l    []uint16
		want []int
	}{
		{3, []uint16{7}, []int{1, 0, 0, 1}},
		{3, []uint16{3, 5, 6}, []int{1, 0, 3, 0}},
		{3, []uint16{1, 2, 4}, []int{1, 3, 3, 1}},
		{1, nil, []int{1, 0}},
		{1, []uint16{0, 0}, []int{1, 0}},
		{1, []uint16{1, 1}, []int{1, 1}},
		{12, nil, []int{1, 0, 0, 0, 0, 0, 0, 0, 0, 0, 0, 0, 0}},
		{12, []uint16{4095}, []int{1, 0, 0, 0, 0, 0, 0, 0, 0, 0, 0, 0, 1}},
		{6, []uint16{1, 2, 4, 8, 16, 32}, []int{1, 6, 15, 20, 15, 6, 1}},
		{12, []uint16{1, 2, 4, 8, 16, 32}, []int{1, 6, 15, 20, 15, 6, 1, 0, 0, 0, 0, 0, 0}},
		// The Hamming code with 7 bits, and the one with a bit more.
		{7, []uint16{7, 25, 42, 75}, []int{1, 0, 0, 7, 7, 0, 0, 1}},
		{8, []uint16{15, 51, 85, 255}, []int{1, 0, 0, 0, 14, 0, 0, 0, 1}},
	} {
		if weights, err := linear.Weights(c.n, c.l); err != api.OK || !slices.Equal(weights, c.want) {
			t.Errorf("Weights(%d, %v) = %v, %d, want %v", c.n, c.l, weights, err, c.want)
		}
	}
}

func TestP62WeightsCountTheWords(t *testing.T) {
	for _, c := range rights() {
		want := make([]int, c.n+1)
		for _, word := range sums(c.l) {
			want[ones(word)]++
		}
		if weights, err := linear.Weights(c.n, c.l); err != api.OK || !slices.Equal(weights, want) {
			t.Errorf("Weights(%d, %v) = %v, %d, want %v", c.n, c.l, weights, err, want)
		}
	}
}

func TestP62Errors(t *testing.T) {
	checkWrongs(t, "Weights")
}

// checkFar checks the minimum distance or, if it is 0, that there is none.
func checkFar(t *testing.T, c code, want int) {
	t.Helper()
	wantErr := api.OK
	if want == 0 {
		wantErr = api.ErrNone
	}
	if far, err := linear.Far(c.n, c.l); far != want || err != wantErr {
		t.Errorf("Far(%d, %v) = %d, %d, want %d, %d", c.n, c.l, far, err, want, wantErr)
	}
}

func TestP63Far(t *testing.T) {
	for _, c := range []struct {
		code
		want int
	}{
		{code{3, []uint16{7}}, 3},
		{code{3, []uint16{3, 5, 6}}, 2},
		{code{3, []uint16{7, 6}}, 1},
		{code{1, []uint16{1}}, 1},
		{code{1, []uint16{0, 1}}, 1},
		{code{12, []uint16{4095}}, 12},
		{code{12, []uint16{2048}}, 1},
		{code{12, []uint16{4095, 4094}}, 1},
		{code{12, []uint16{4095, 63}}, 6},
		{code{7, []uint16{7, 25, 42, 75}}, 3},
		{code{8, []uint16{15, 51, 85, 255}}, 4},
	} {
		checkFar(t, c.code, c.want)
	}
}

// TestP63FarIsTheMinimumDistance compares with the smallest number of bits in
// which two code words differ.
func TestP63FarIsTheMinimumDistance(t *testing.T) {
	for _, c := range rights() {
		words := sums(c.l)
		want := 0
		for i, x := range words {
			for _, y := range words[:i] {
				if differ := ones(x ^ y); want == 0 || differ < want {
					want = differ
				}
			}
		}
		checkFar(t, c, want)
	}
}

func TestP63Errors(t *testing.T) {
	checkWrongs(t, "Far")
	for n := 1; n <= widest; n++ {
		for count := range most + 1 {
			checkFar(t, code{n, make([]uint16, count)}, 0)
		}
		// What is wrong with the generators goes before that there is one word.
		if far, err := linear.Far(n, make([]uint16, most+1)); far != 0 || err != api.ErrLarge {
			t.Errorf("Far(%d) of too many zeros = %d, %d", n, far, err)
		}
	}
	for _, n := range badWidths {
		if far, err := linear.Far(n, nil); far != 0 || err != api.ErrArg {
			t.Errorf("Far(%d, nil) = %d, %d", n, far, err)
		}
	}
}

func TestP64Dual(t *testing.T) {
	for _, c := range []struct {
		n    int
		l    []uint16
		want []uint16
	}{
		{3, []uint16{7}, []uint16{5, 3}},
		{3, []uint16{3, 5, 6}, []uint16{7}},
		{3, []uint16{1, 2, 4}, nil},
		{3, nil, []uint16{4, 2, 1}},
		{3, []uint16{2}, []uint16{4, 1}},
		{1, nil, []uint16{1}},
		{1, []uint16{0, 0}, []uint16{1}},
		{1, []uint16{0, 1}, nil},
		{6, nil, []uint16{32, 16, 8, 4, 2, 1}},
		{6, []uint16{1, 2, 4, 8, 16, 32}, nil},
		{7, []uint16{127}, []uint16{65, 33, 17, 9, 5, 3}},
		{12, []uint16{1, 2, 4, 8, 16, 32}, []uint16{2048, 1024, 512, 256, 128, 64}},
		{12, []uint16{2048, 1024, 512, 256, 128, 64}, []uint16{32, 16, 8, 4, 2, 1}},
		{7, []uint16{7, 25, 42, 75}, []uint16{75, 45, 30}},
		// This one is its own dual.
		{8, []uint16{15, 51, 85, 255}, []uint16{150, 85, 51, 15}},
	} {
		if dual, err := linear.Dual(c.n, c.l); err != api.OK || !slices.Equal(dual, c.want) {
			t.Errorf("Dual(%d, %v) = %v, %d, want %v", c.n, c.l, dual, err, c.want)
		}
	}
}

// evenWords returns the words of n bits that have an even number of 1 bits in
// common with each of these, in increasing order.
func evenWords(n int, words []uint16) []uint16 {
	var all []uint16
	for word := range uint16(1 << n) {
		if !slices.ContainsFunc(words, func(other uint16) bool { return ones(word&other)%2 != 0 }) {
			all = append(all, word)
		}
	}
	return all
}

// dimension returns how many generators the code needs.
func dimension(c code) int {
	count := 0
	for 1<<count < len(sums(c.l)) {
		count++
	}
	return count
}

func TestP64DualIsReduced(t *testing.T) {
	for _, c := range rights() {
		dual, err := linear.Dual(c.n, c.l)
		if c.n-dimension(c) > most {
			if len(dual) != 0 || err != api.ErrLarge {
				t.Errorf("Dual(%d, %v) = %v, %d", c.n, c.l, dual, err)
			}
			continue
		}
		if err != api.OK {
			t.Errorf("Dual(%d, %v) has error %d", c.n, c.l, err)
		}
		checkBasis(t, "Dual", c, dual, evenWords(c.n, sums(c.l)))
	}
}

func TestP64DualOfDualIsTheCode(t *testing.T) {
	for _, c := range rights() {
		dual, err := linear.Dual(c.n, c.l)
		if err != api.OK {
			continue
		}
		want, _ := linear.Base(c.n, c.l)
		if base, err := linear.Dual(c.n, dual); err != api.OK || !slices.Equal(base, want) {
			t.Errorf("Dual(%d, %v) = %v, but the dual of it is %v, %d, not %v", c.n, c.l, dual, base, err, want)
		}
	}
}

// TestP64LargeDuals checks both sides of the bound for every number of bits.
func TestP64LargeDuals(t *testing.T) {
	next := numbers()
	for n := 1; n <= widest; n++ {
		for count := range min(n, most) + 1 {
			want := api.OK
			if n-count > most {
				want = api.ErrLarge
			}
			for range 10 {
				c := fullCode(n, count, next)
				// More generators of the same code make no difference.
				for len(c.l) < most && next(2) == 1 {
					words := sums(c.l)
					c.l = append(c.l, words[next(len(words))])
				}
				dual, err := linear.Dual(n, c.l)
				if err != want || err == api.OK && len(dual) != n-count || err != api.OK && len(dual) != 0 {
					t.Errorf("Dual(%d, %v) = %v, %d, want error %d", n, c.l, dual, err, want)
				}
			}
		}
	}
}

func TestP64Errors(t *testing.T) {
	// Many of these would have too large a dual, but another error goes first.
	checkWrongs(t, "Dual")
	for n := 1; n <= widest; n++ {
		want := api.OK
		if n > most {
			want = api.ErrLarge
		}
		for count := range most + 1 {
			if _, err := linear.Dual(n, make([]uint16, count)); err != want {
				t.Errorf("Dual(%d) of %d zeros has error %d, want %d", n, count, err, want)
			}
		}
	}
}
