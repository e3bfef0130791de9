package tree_test

import (
	"math"
	"math/big"
	"slices"
	"strings"
	"testing"

	"wholemend/api"
	"wholemend/tree"
)

const most = api.MaxLeaves

// badCounts are how many strings there may not be.
var badCounts = []int{
	math.MinInt, math.MinInt32, -(1 << 32), -(1 << 32) + 1, -api.MaxInt, -256, -255, -most, -2, -1, 0,
	most + 1, most + 2, 2 * most, 255, 256, 257, 256 + most, 1 << 16, 1<<16 + 1, api.MaxInt, math.MaxInt32, 1 << 32, 1<<32 + 1, math.MaxInt,
}

// badIndices are those of no string, if there are so many.
func badIndices(n int) []int {
	return []int{
		math.MinInt, math.MinInt32, -(1 << 32), -(1 << 32) + 1, -api.MaxInt, -256, -255, -n, -2, -1,
		n, n + 1, most + n, 255, 256, 257, 1 << 16, api.MaxInt, math.MaxInt32, 1 << 32, 1<<32 + 1, math.MaxInt,
	}
}

// numbers returns a function for numbers from 0 to below - 1, always the same.
func numbers() func(below int) int {
	seed := uint32(1)
	return func(below int) int {
		seed = seed*1664525 + 1013904223
		return int(seed>>8) % below
	}
}

// anyText returns some string of so many bytes.
func anyText(length int, next func(below int) int) string {
	l := make([]byte, length)
	for i := range l {
		l[i] = byte(next(256))
	}
	return string(l)
}

// anyTexts returns so many strings of up to 80 bytes.
func anyTexts(n int, next func(below int) int) []string {
	l := make([]string, n)
	for i := range l {
		l[i] = anyText(next(81), next)
	}
	return l
}

// anyHash returns some number of 64 bits.
func anyHash(next func(below int) int) uint64 {
	value := uint64(0)
	for range 8 {
		value = value<<8 + uint64(next(256))
	}
	return value
}

// anyHashes returns so many numbers of 64 bits.
func anyHashes(n int, next func(below int) int) []uint64 {
	l := make([]uint64, n)
	for i := range l {
		l[i] = anyHash(next)
	}
	return l
}

// letters returns so many strings of one letter each.
func letters(n int) []string {
	return strings.Split("abcdefghijklmnop"[:n], "")
}

// large returns a number that may be larger than 64 bits.
func large(value uint64) *big.Int {
	return new(big.Int).SetUint64(value)
}

// low returns the number modulo 2^64.
func low(value *big.Int) uint64 {
	return new(big.Int).Mod(value, new(big.Int).Lsh(big.NewInt(1), 64)).Uint64()
}

// shifted returns the number combined with itself, so many bits further down.
func shifted(value uint64, down uint) uint64 {
	quotient := new(big.Int).Div(large(value), new(big.Int).Lsh(big.NewInt(1), down))
	return new(big.Int).Xor(large(value), quotient).Uint64()
}

// mixed returns the number mixed with a kind as the document defines it, by
// numbers of any size.
func mixed(value uint64, kind uint64) uint64 {
	x := new(big.Int).Xor(large(value), large(kind)).Uint64()
	y := low(new(big.Int).Mul(large(shifted(x, 31)), large(0x9e3779b97f4a7c15)))
	return shifted(y, 29)
}

// leaf returns the hash value of a string as the document defines it.
func leaf(text string) uint64 {
	value := big.NewInt(int64(len(text)))
	for _, b := range []byte(text) {
		value.Xor(value, big.NewInt(int64(b)))
		value = large(low(value.Mul(value, big.NewInt(0x100000001b3))))
	}
	return mixed(value.Uint64(), 2)
}

// node returns the hash value of two others as the document defines it.
func node(left, right uint64) uint64 {
	sum := new(big.Int).Mul(large(mixed(left, 5)), big.NewInt(3))
	return mixed(low(sum.Add(sum, large(right))), 3)
}

// half returns how many of n strings are under the left of the two numbers that
// the root is made of: as many as possible that are a power of 2.
func half(n int) int {
	left := 1
	for 2*left < n {
		left *= 2
	}
	return left
}

// root returns the hash value of the strings, from above.
func root(texts []string) uint64 {
	if len(texts) == 1 {
		return leaf(texts[0])
	}
	left := half(len(texts))
	return node(root(texts[:left]), root(texts[left:]))
}

// proof returns the hash values by which string k leads to the root, from above.
func proof(texts []string, k int) []uint64 {
	if len(texts) == 1 {
		return nil
	}
	left := half(len(texts))
	if k < left {
		return append(proof(texts[:left], k), root(texts[left:]))
	}
	return append(proof(texts[left:], k-left), root(texts[:left]))
}

// depth returns how many hash values the proof of string k of n has.
func depth(n, k int) int {
	return len(proof(make([]string, n), k))
}

// led returns the root to which a hash value at index k of n leads by a proof of
// the right length.
func led(n, k int, value uint64, proof []uint64) uint64 {
	if n == 1 {
		return value
	}
	left, last := half(n), len(proof)-1
	if k < left {
		return node(led(left, k, value, proof[:last]), proof[last])
	}
	return node(proof[last], led(n-left, k-left, value, proof[:last]))
}

// call is one of a function, with its arguments: those of Node and the proof of
// Check are the values.
type call struct {
	name   string
	text   string
	texts  []string
	values []uint64
	root   uint64
	n, k   int
}

// result of a call.
type result struct {
	value  uint64
	values []uint64
	is     bool
	err    api.Errno
}

func (r result) equal(other result) bool {
	return r.value == other.value && slices.Equal(r.values, other.values) && r.is == other.is && r.err == other.err
}

// do returns what the function returns.
func (c call) do() result {
	var r result
	switch c.name {
	case "Leaf":
		r.value = tree.Leaf(c.text)
	case "Node":
		r.value = tree.Node(c.values[0], c.values[1])
	case "Root":
		r.value, r.err = tree.Root(c.texts)
	case "Prove":
		r.values, r.err = tree.Prove(c.texts, c.k)
	case "Check":
		r.is, r.err = tree.Check(c.root, c.n, c.k, c.text, c.values)
	}
	return r
}

// checkOf returns the call that checks string k, with its right proof.
func checkOf(texts []string, k int) call {
	return call{name: "Check", root: root(texts), n: len(texts), k: k, text: texts[k], values: proof(texts, k)}
}

// rights are calls without an error, of all numbers of strings.
func rights() []call {
	next := numbers()
	var list []call
	for n := 1; n <= most; n++ {
		texts := anyTexts(n, next)
		list = append(list, call{name: "Leaf", text: texts[0]}, call{name: "Node", values: anyHashes(2, next)}, call{name: "Root", texts: texts})
		for k := range n {
			list = append(list, call{name: "Prove", texts: texts, k: k}, checkOf(texts, k))
			for length := range 8 {
				list = append(list, call{name: "Check", root: anyHash(next), n: n, k: k, text: texts[k], values: anyHashes(length, next)})
			}
		}
	}
	for _, length := range []int{0, 1, 255, 256, 257, 1 << 16} {
		list = append(list, call{name: "Leaf", text: strings.Repeat("\xff", length)})
	}
	return append(list, call{name: "Leaf"}, call{name: "Node", values: []uint64{math.MaxUint64, math.MaxUint64}})
}

// wrong is a call with an error.
type wrong struct {
	call
	err api.Errno
}

// wrongCounts are calls with too few or too many strings.
func wrongCounts() []wrong {
	next := numbers()
	var list []wrong
	for _, n := range badCounts {
		if n >= 0 && n <= 1<<17 {
			texts := make([]string, n)
			list = append(list, wrong{call{name: "Root", texts: texts}, api.ErrLarge})
			// That there are too many goes before that there is no such one.
			for _, k := range append(badIndices(n), 0, n-1, n/2) {
				list = append(list, wrong{call{name: "Prove", texts: texts, k: k}, api.ErrLarge})
			}
		}
		for _, k := range append(badIndices(n), badIndices(most)...) {
			list = append(list, wrong{call{name: "Check", root: anyHash(next), n: n, k: k}, api.ErrLarge})
		}
		for _, k := range []int{0, 1, n / 2, n - 1} {
			list = append(list, wrong{call{name: "Check", root: leaf("a"), n: n, k: k, text: "a"}, api.ErrLarge},
				wrong{call{name: "Check", root: leaf("a"), n: n, k: k, text: "a", values: anyHashes(5, next)}, api.ErrLarge})
		}
	}
	return list
}

// wrongIndices are calls with an index of no string.
func wrongIndices() []wrong {
	next := numbers()
	var list []wrong
	for n := 1; n <= most; n++ {
		texts := anyTexts(n, next)
		for _, k := range badIndices(n) {
			if k >= 0 && k < n {
				continue
			}
			c := checkOf(texts, n-1)
			c.k = k
			list = append(list, wrong{call{name: "Prove", texts: texts, k: k}, api.ErrNone}, wrong{c, api.ErrNone},
				wrong{call{name: "Check", root: c.root, n: n, k: k, text: texts[0], values: proof(texts, 0)}, api.ErrNone},
				wrong{call{name: "Check", n: n, k: k}, api.ErrNone})
		}
	}
	return list
}

// wrongs are calls of all kinds with an error.
func wrongs() []wrong {
	return append(wrongCounts(), wrongIndices()...)
}

// calls are those of all functions, with right and wrong arguments.
func calls() []call {
	list := rights()
	for _, w := range wrongs() {
		list = append(list, w.call)
	}
	return append(list, call{name: "Root"}, call{name: "Prove"}, call{name: "Check"}, call{name: "Root", texts: []string{}})
}

func TestP1NoArgumentPanics(t *testing.T) {
	for _, c := range calls() {
		func() {
			defer func() {
				if r := recover(); r != nil {
					t.Errorf("%#v panics: %v", c, r)
				}
			}()
			c.do()
		}()
	}
}

func TestP2ResultsDependOnlyOnArguments(t *testing.T) {
	list := calls()
	first := make([]result, len(list))
	for i, c := range list {
		first[i] = c.do()
	}
	check := func(i int) {
		if got := list[i].do(); !got.equal(first[i]) {
			t.Errorf("%#v: first %#v, then %#v", list[i], first[i], got)
		}
	}
	for i := range list {
		check(i)
	}
	// Nor does it count which calls come before, or where the arguments are.
	for i, c := range slices.Backward(list) {
		list[i] = c.same()
		check(i)
	}
}

// same returns the same call with arguments in other memory.
func (c call) same() call {
	c.texts, c.values, c.text = slices.Clone(c.texts), slices.Clone(c.values), strings.Clone(c.text)
	for i, text := range c.texts {
		c.texts[i] = strings.Clone(text)
	}
	return c
}

func TestP2OtherResultsAreZeroWithAnError(t *testing.T) {
	for _, c := range calls() {
		if got := c.do(); got.err != api.OK && (got.value != 0 || len(got.values) != 0 || got.is) {
			t.Errorf("%#v = %#v", c, got)
		}
	}
}

// roomy returns the call with arguments that have spare memory.
func (c call) roomy() call {
	c.texts = append(slices.Clone(c.texts), slices.Repeat([]string{"spare"}, 2*most)...)[:len(c.texts)]
	c.values = append(slices.Clone(c.values), slices.Repeat([]uint64{1}, 2*most)...)[:len(c.values)]
	return c
}

func TestP2ArgumentsStayAsTheyAre(t *testing.T) {
	for _, c := range calls() {
		c = c.roomy()
		texts, values := slices.Clone(c.texts[:cap(c.texts)]), slices.Clone(c.values[:cap(c.values)])
		c.do()
		if !slices.Equal(c.texts[:cap(c.texts)], texts) || !slices.Equal(c.values[:cap(c.values)], values) {
			t.Errorf("%s changes its arguments %q, %v", c.name, texts[:len(c.texts)], values[:len(c.values)])
		}
	}
}

// spoil writes to all memory behind a slice.
func spoil(l []uint64) {
	l = l[:cap(l)]
	for i := range l {
		l[i]++
	}
}

func TestP2ResultsAreNewMemory(t *testing.T) {
	for _, c := range rights() {
		c = c.roomy()
		before := slices.Clone(c.values[:cap(c.values)])
		first, second := c.do(), c.do()
		want := slices.Clone(second.values)
		spoil(first.values)
		if !slices.Equal(c.values[:cap(c.values)], before) {
			t.Fatalf("%#v shares its result with its argument", c)
		}
		if !slices.Equal(second.values, want) {
			t.Fatalf("%#v shares its result with another one", c)
		}
		if third := c.do(); !slices.Equal(third.values, want) {
			t.Fatalf("%#v keeps its result", c)
		}
	}
}

// TestP2ArgumentsAreNotRetained puts other strings and values into the memory
// that an earlier call had.
func TestP2ArgumentsAreNotRetained(t *testing.T) {
	next := numbers()
	for _, c := range rights() {
		c = c.same()
		first := c.do()
		want := slices.Clone(first.values)
		copy(c.texts, anyTexts(len(c.texts), next))
		copy(c.values, anyHashes(len(c.values), next))
		if !slices.Equal(first.values, want) {
			t.Fatalf("%s returns memory of its argument", c.name)
		}
		if got, other := c.do(), c.same().do(); !got.equal(other) {
			t.Fatalf("%#v = %#v, but %#v in other memory", c, got, other)
		}
	}
}

// checkLeaf checks a result of Leaf.
func checkLeaf(t *testing.T, text string, want uint64) {
	t.Helper()
	if got := tree.Leaf(text); got != want {
		t.Errorf("Leaf(%q) = %#x, want %#x", text, got, want)
	}
}

func TestP80Leaf(t *testing.T) {
	for _, c := range []struct {
		text string
		want uint64
	}{
		{"", 0x3c6ef3731de363bd},
		{"a", 0x65f8c6df9a26af2f},
		{"b", 0x1b12e1728fec9545},
		{"ab", 0x381683f87f80dc92},
		{"ba", 0xc00e31e29916c161},
		{"abc", 0x7cf3d14fc55d1e4d},
		{"\x00", 0x55446abc4bd75c72},
		{"\x00\x00", 0xe132dd0e08e894d8},
		{"\xff", 0xd484406e1e56783d},
		{"é", 0xc54f6ffd94cd6981},
		{strings.Repeat("a", api.MaxText), 0xca3a91a5dbdffb14},
		{strings.Repeat("a", api.MaxText+1), 0xb78dcb695396c52b},
	} {
		checkLeaf(t, c.text, c.want)
	}
}

func TestP80LeafOfEachByte(t *testing.T) {
	for a := range 256 {
		checkLeaf(t, string([]byte{byte(a)}), leaf(string([]byte{byte(a)})))
		for b := range 256 {
			text := string([]byte{byte(a), byte(b)})
			checkLeaf(t, text, leaf(text))
		}
	}
}

func TestP80LeafOfEveryLength(t *testing.T) {
	next := numbers()
	for length := range 600 {
		for _, text := range []string{anyText(length, next), strings.Repeat("\x00", length), strings.Repeat("\xff", length)} {
			checkLeaf(t, text, leaf(text))
		}
	}
	for _, length := range []int{1<<16 - 1, 1 << 16, 1<<16 + 1} {
		text := anyText(length, next)
		checkLeaf(t, text, leaf(text))
	}
}

// TestP80EachByteCounts changes one byte of a string.
func TestP80EachByteCounts(t *testing.T) {
	next := numbers()
	for length := 1; length <= 100; length++ {
		text := []byte(anyText(length, next))
		before := tree.Leaf(string(text))
		for i := range text {
			change := byte(1 + next(255))
			text[i] ^= change
			if tree.Leaf(string(text)) == before {
				t.Errorf("Leaf(%q) does not depend on byte %d", text, i)
			}
			text[i] ^= change
		}
	}
}

// checkNode checks a result of Node.
func checkNode(t *testing.T, left, right, want uint64) {
	t.Helper()
	if got := tree.Node(left, right); got != want {
		t.Errorf("Node(%#x, %#x) = %#x, want %#x", left, right, got, want)
	}
}

func TestP80Node(t *testing.T) {
	for _, c := range []struct{ left, right, want uint64 }{
		{0, 0, 0xafb75ea2e871a3db},
		{1, 0, 0x7be08503d1a978e3},
		{0, 1, 0x117fe4ee9d7ffda2},
		{1, 2, 0x3f71918ceb94d4d1},
		{2, 1, 0x4ec8fd270c9f5958},
		{5, 3, 0},
		{math.MaxUint64, math.MaxUint64, 0x7c741c858edb5fe7},
		{math.MaxUint64, 0, 0x571a89b0538f7d84},
		{0, math.MaxUint64, 0xd510f17dbf6c6970},
		{1 << 63, 1 << 63, 0x313a384230f24ae8},
		{0x123456789abcdef0, 0xfedcba9876543210, 0xf07ef967c8dc1820},
	} {
		checkNode(t, c.left, c.right, c.want)
	}
}

// TestP80NodeOfManyNumbers takes small and any numbers, and those with each bit.
func TestP80NodeOfManyNumbers(t *testing.T) {
	next := numbers()
	for left := range uint64(64) {
		for right := range uint64(64) {
			checkNode(t, left, right, node(left, right))
			checkNode(t, 1<<left, 1<<right, node(1<<left, 1<<right))
			checkNode(t, -left, -right, node(-left, -right))
		}
	}
	for range 5000 {
		left, right := anyHash(next), anyHash(next)
		checkNode(t, left, right, node(left, right))
	}
}

// checkRoot checks a result of Root without an error.
func checkRoot(t *testing.T, texts []string, want uint64) {
	t.Helper()
	if got, err := tree.Root(texts); got != want || err != api.OK {
		t.Errorf("Root(%q) = %#x, %d, want %#x", texts, got, err, want)
	}
}

func TestP81Root(t *testing.T) {
	wants := []uint64{
		0x65f8c6df9a26af2f, 0x1352e11126bf00f9, 0x15eea27030ec3359, 0xfc30cc821bc09556,
		0xf69df5f4d41d2f35, 0x5158e6d1f0f91aac, 0x69153b922c5b36f2, 0x52167ceb9aaf3ffc,
		0x80be3d526e0bd1c6, 0x353d967ba412780b, 0xc08b5846c3387050, 0x9518853b87ba4754,
		0x9b061459c95b4567, 0xf43addaf1a00a379, 0xf9ffcd165ec5baee, 0x91f13d088aa572a,
	}
	for i, want := range wants {
		checkRoot(t, letters(i+1), want)
	}
	a, b, c, d, e := tree.Leaf("a"), tree.Leaf("b"), tree.Leaf("c"), tree.Leaf("d"), tree.Leaf("e")
	checkRoot(t, letters(1), a)
	checkRoot(t, letters(2), tree.Node(a, b))
	checkRoot(t, letters(3), tree.Node(tree.Node(a, b), c))
	checkRoot(t, letters(4), tree.Node(tree.Node(a, b), tree.Node(c, d)))
	checkRoot(t, letters(5), tree.Node(tree.Node(tree.Node(a, b), tree.Node(c, d)), e))
	checkRoot(t, []string{""}, tree.Leaf(""))
	checkRoot(t, []string{"", ""}, tree.Node(tree.Leaf(""), tree.Leaf("")))
	checkRoot(t, []string{strings.Repeat("l", 5000), ""}, tree.Node(tree.Leaf(strings.Repeat("l", 5000)), tree.Leaf("")))
}

func TestP81RootOfEveryCount(t *testing.T) {
	next := numbers()
	for n := 1; n <= most; n++ {
		for range 50 {
			texts := anyTexts(n, next)
			checkRoot(t, texts, root(texts))
		}
		checkRoot(t, make([]string, n), root(make([]string, n)))
	}
}

// TestP81EachStringAndItsPlaceCounts changes a string, or swaps two.
func TestP81EachStringAndItsPlaceCounts(t *testing.T) {
	for n := 1; n <= most; n++ {
		texts := letters(n)
		before := root(texts)
		for i := range n {
			other := slices.Clone(texts)
			other[i] += "!"
			if got, err := tree.Root(other); got == before || err != api.OK {
				t.Errorf("Root(%q) = %#x, %d, as without the change", other, got, err)
			}
			for k := range i {
				other := slices.Clone(texts)
				other[i], other[k] = other[k], other[i]
				if got, err := tree.Root(other); got == before || err != api.OK {
					t.Errorf("Root(%q) = %#x, %d, as without the swap", other, got, err)
				}
			}
		}
	}
}

func TestP81Errors(t *testing.T) {
	for _, w := range wrongCounts() {
		if w.name != "Root" {
			continue
		}
		if got, err := tree.Root(w.texts); got != 0 || err != w.err {
			t.Errorf("Root of %d strings = %#x, %d, want error %d", len(w.texts), got, err, w.err)
		}
	}
	if got, err := tree.Root(nil); got != 0 || err != api.ErrLarge {
		t.Errorf("Root(nil) = %#x, %d, want error %d", got, err, api.ErrLarge)
	}
}

// checkProve checks a result of Prove without an error.
func checkProve(t *testing.T, texts []string, k int, want ...uint64) {
	t.Helper()
	if got, err := tree.Prove(texts, k); !slices.Equal(got, want) || err != api.OK {
		t.Errorf("Prove(%q, %d) = %#x, %d, want %#x", texts, k, got, err, want)
	}
}

func TestP82Prove(t *testing.T) {
	a, b, c, d, e := tree.Leaf("a"), tree.Leaf("b"), tree.Leaf("c"), tree.Leaf("d"), tree.Leaf("e")
	ab, cd := tree.Node(a, b), tree.Node(c, d)
	checkProve(t, letters(1), 0)
	checkProve(t, letters(2), 0, b)
	checkProve(t, letters(2), 1, a)
	checkProve(t, letters(3), 0, b, c)
	checkProve(t, letters(3), 1, a, c)
	checkProve(t, letters(3), 2, ab)
	checkProve(t, letters(4), 0, b, cd)
	checkProve(t, letters(4), 3, c, ab)
	checkProve(t, letters(5), 0, b, cd, e)
	checkProve(t, letters(5), 2, d, ab, e)
	checkProve(t, letters(5), 4, tree.Node(ab, cd))
	checkProve(t, []string{"", ""}, 1, tree.Leaf(""))
}

func TestP82ProveOfEveryCount(t *testing.T) {
	next := numbers()
	for n := 1; n <= most; n++ {
		for range 10 {
			texts := anyTexts(n, next)
			for k := range n {
				checkProve(t, texts, k, proof(texts, k)...)
			}
		}
	}
}

// TestP82TheStringItselfDoesNotCount changes string k, of which its own proof
// says nothing.
func TestP82TheStringItselfDoesNotCount(t *testing.T) {
	for n := 1; n <= most; n++ {
		for k := range n {
			texts := letters(n)
			want := proof(texts, k)
			texts[k] = "other"
			checkProve(t, texts, k, want...)
		}
	}
}

func TestP82Errors(t *testing.T) {
	for _, w := range wrongs() {
		if w.name != "Prove" {
			continue
		}
		if got, err := tree.Prove(w.texts, w.k); len(got) != 0 || err != w.err {
			t.Errorf("Prove of string %d of %d = %#x, %d, want error %d", w.k, len(w.texts), got, err, w.err)
		}
	}
}

// checkCheck checks a result of Check without an error.
func checkCheck(t *testing.T, c call, want bool) {
	t.Helper()
	if got, err := tree.Check(c.root, c.n, c.k, c.text, c.values); got != want || err != api.OK {
		t.Errorf("Check(%#x, %d, %d, %q, %#x) = %t, %d, want %t", c.root, c.n, c.k, c.text, c.values, got, err, want)
	}
}

func TestP83Check(t *testing.T) {
	a, b, c := tree.Leaf("a"), tree.Leaf("b"), tree.Leaf("c")
	ab := tree.Node(a, b)
	abc := tree.Node(ab, c)
	for _, s := range []struct {
		root  uint64
		n, k  int
		text  string
		proof []uint64
		want  bool
	}{
		{a, 1, 0, "a", nil, true},
		{a, 1, 0, "a", []uint64{}, true},
		{a, 1, 0, "b", nil, false},
		{a, 1, 0, "a", []uint64{a}, false},
		{a, 1, 0, "a", []uint64{0}, false},
		{ab, 2, 0, "a", []uint64{b}, true},
		{ab, 2, 1, "b", []uint64{a}, true},
		{ab, 2, 1, "a", []uint64{b}, false},
		{ab, 2, 0, "b", []uint64{a}, false},
		{a, 2, 0, "a", nil, false},
		{ab, 1, 0, "a", []uint64{b}, false},
		{ab, 2, 0, "a", []uint64{b, 0}, false},
		{abc, 3, 0, "a", []uint64{b, c}, true},
		{abc, 3, 1, "b", []uint64{a, c}, true},
		{abc, 3, 2, "c", []uint64{ab}, true},
		{abc, 3, 0, "a", []uint64{c, b}, false},
		{abc, 3, 2, "c", []uint64{b, a}, false},
		{ab, 3, 0, "a", []uint64{b}, false},
		{abc, 4, 0, "a", []uint64{b, c}, true},
		{abc, 4, 2, "c", []uint64{ab}, false},
	} {
		checkCheck(t, call{root: s.root, n: s.n, k: s.k, text: s.text, values: s.proof}, s.want)
	}
}

// TestP83ProofsOfEveryCount checks right proofs, and the same with a change.
func TestP83ProofsOfEveryCount(t *testing.T) {
	next := numbers()
	for n := 1; n <= most; n++ {
		for k := range n {
			c := checkOf(anyTexts(n, next), k)
			checkCheck(t, c, true)
			for bit := range 64 {
				other := c
				other.root ^= 1 << bit
				checkCheck(t, other, false)
			}
			for _, text := range []string{c.text + "\x00", "\x00" + c.text, "", "other"} {
				other := c
				other.text = text
				checkCheck(t, other, text == c.text)
			}
			for i := range c.values {
				other := c
				other.values = slices.Clone(c.values)
				other.values[i] ^= 1 << next(64)
				checkCheck(t, other, false)
			}
		}
	}
}

// TestP83TheLengthOfAProofCounts leaves out or adds values, also if the root is
// that to which all of them or the first ones lead.
func TestP83TheLengthOfAProofCounts(t *testing.T) {
	next := numbers()
	for n := 1; n <= most; n++ {
		for k := range n {
			c := checkOf(anyTexts(n, next), k)
			for i := range c.values {
				other := c
				other.values = slices.Delete(slices.Clone(c.values), i, i+1)
				checkCheck(t, other, false)
				other.values = c.values[:i]
				other.root = led(1<<i, k%(1<<i), leaf(c.text), other.values)
				checkCheck(t, other, false)
			}
			for i := range len(c.values) + 1 {
				for _, value := range []uint64{0, c.root, leaf(c.text), anyHash(next)} {
					other := c
					other.values = slices.Insert(slices.Clone(c.values), i, value)
					checkCheck(t, other, false)
				}
			}
			c.values = append(c.values, anyHashes(1000, next)...)
			checkCheck(t, c, false)
			for _, right := range []bool{false, true} {
				c.values = anyHashes(depth(n, k)+1, next)
				last := c.values[depth(n, k)]
				c.root = led(n, k, leaf(c.text), c.values[:depth(n, k)])
				if right {
					c.root = node(c.root, last)
				} else {
					c.root = node(last, c.root)
				}
				checkCheck(t, c, false)
			}
		}
	}
}

// TestP83AnyValuesLeadToSomeRoot takes any values as a proof: they lead to
// exactly one root.
func TestP83AnyValuesLeadToSomeRoot(t *testing.T) {
	next := numbers()
	for n := 1; n <= most; n++ {
		for k := range n {
			for range 20 {
				c := call{n: n, k: k, text: anyText(next(81), next), values: anyHashes(depth(n, k), next)}
				c.root = led(n, k, leaf(c.text), c.values)
				checkCheck(t, c, true)
				c.root = anyHash(next)
				checkCheck(t, c, false)
			}
		}
	}
}

// TestP83OtherPlaces checks each proof at each index of each number of strings.
// It may hold there if the same values are needed.
func TestP83OtherPlaces(t *testing.T) {
	next := numbers()
	for n := 1; n <= most; n++ {
		texts := anyTexts(n, next)
		for k := range n {
			c := checkOf(texts, k)
			for otherN := 1; otherN <= most; otherN++ {
				for otherK := range otherN {
					c.n, c.k = otherN, otherK
					fits := depth(otherN, otherK) == len(c.values)
					checkCheck(t, c, fits && led(otherN, otherK, leaf(c.text), c.values) == c.root)
				}
			}
		}
	}
}

// TestP83ProveAndRootAgree checks what the other functions return.
func TestP83ProveAndRootAgree(t *testing.T) {
	next := numbers()
	for n := 1; n <= most; n++ {
		for range 10 {
			texts := anyTexts(n, next)
			root, err := tree.Root(texts)
			if err != api.OK {
				t.Fatalf("Root(%q) has error %d", texts, err)
			}
			for k, text := range texts {
				proof, err := tree.Prove(texts, k)
				if err != api.OK {
					t.Fatalf("Prove(%q, %d) has error %d", texts, k, err)
				}
				checkCheck(t, call{root: root, n: n, k: k, text: text, values: proof}, true)
				checkCheck(t, call{root: root, n: n, k: k, text: text + "!", values: proof}, false)
			}
		}
	}
}

func TestP83Errors(t *testing.T) {
	for _, w := range wrongs() {
		if w.name != "Check" {
			continue
		}
		if got, err := tree.Check(w.root, w.n, w.k, w.text, w.values); got || err != w.err {
			t.Errorf("Check(%#x, %d, %d, %q, %#x) = %t, %d, want error %d", w.root, w.n, w.k, w.text, w.values, got, err, w.err)
		}
	}
}
