package cyclic_test

import (
	"slices"
	"strings"
	"testing"

	"wholemend/api"
	"wholemend/cyclic"
	"wholemend/poly"
)

const (
	longest = api.MaxRest + 1           // bytes of a generator
	mostPut = api.MaxBits               // bytes of a string for Put
	mostGet = api.MaxBits + api.MaxRest // bytes of a string for Get
)

// arguments of Put or Get.
type arguments struct{ s, by string }

// wrong are arguments that are not allowed.
type wrong struct {
	arguments
	err api.Errno
}

// numbers returns a function for numbers from 0 to below - 1, always the same.
func numbers() func(below int) int {
	seed := uint32(1)
	return func(below int) int {
		seed = seed*1664525 + 1013904223
		return int(seed>>8) % below
	}
}

// binary returns a number as a string of so many bits.
func binary(number, count int) string {
	bits := make([]byte, count)
	for i := range bits {
		bits[i] = "01"[number>>(count-1-i)&1]
	}
	return string(bits)
}

// allBits returns all strings of so many bits.
func allBits(count int) []string {
	all := make([]string, 1<<count)
	for number := range all {
		all[number] = binary(number, count)
	}
	return all
}

// anyBits returns some string of so many bits.
func anyBits(count int, next func(below int) int) string {
	bits := make([]byte, count)
	for i := range bits {
		bits[i] = "01"[next(2)]
	}
	return string(bits)
}

// generators returns all generators of so many bytes.
func generators(count int) []string {
	var all []string
	for _, middle := range allBits(count - 2) {
		all = append(all, "1"+middle+"1")
	}
	return all
}

// someGenerators returns all generators of up to 6 bytes and, of every greater
// length, the first, the last and some others.
func someGenerators(next func(below int) int) []string {
	var all []string
	for count := 2; count <= longest; count++ {
		if count <= 6 {
			all = append(all, generators(count)...)
			continue
		}
		all = append(all, "1"+strings.Repeat("0", count-2)+"1", strings.Repeat("1", count))
		for range 4 {
			all = append(all, "1"+anyBits(count-2, next)+"1")
		}
	}
	return all
}

// product returns the product of two polynomials, of which g is not empty, with
// all the places that it may have, even if they begin with 0.
func product(f, g string) string {
	bits := []byte(strings.Repeat("0", len(f)+len(g)-1))
	for i := range bits {
		pairs := 0
		for j := range len(f) {
			if k := i - j; k >= 0 && k < len(g) && f[j] == '1' && g[k] == '1' {
				pairs++
			}
		}
		bits[i] = "01"[pairs%2]
	}
	return string(bits)
}

// multiples returns all strings of so many bits that are divisible.
func multiples(count int, by string) []string {
	var all []string
	for _, quotient := range allBits(count - len(by) + 1) {
		all = append(all, product(quotient, by))
	}
	return all
}

// letters returns the bits of the bytes of a text.
func letters(text string) string {
	bits := ""
	for i := range len(text) {
		bits += binary(int(text[i]), 8)
	}
	return bits
}

// withByte returns s with another byte at place i.
func withByte(s string, i int, b byte) string {
	return s[:i] + string([]byte{b}) + s[i+1:]
}

// otherBytes are all but 0 and 1.
func otherBytes() []byte {
	var all []byte
	for b := range 256 {
		if b != '0' && b != '1' {
			all = append(all, byte(b))
		}
	}
	return all
}

// badGenerators are strings that are no generators, with what is wrong.
func badGenerators() []wrong {
	var all []wrong
	add := func(err api.Errno, by string) {
		all = append(all, wrong{arguments{"", by}, err})
	}
	for _, count := range []int{0, 1, 18, 19, 20, 32, 33, 64, 200, 255, 256, 258, 273, 65536, 65538, 65553} {
		for _, b := range []string{"1", "0", "x", "\x00", "\xff"} {
			// A wrong length goes before wrong bytes.
			add(api.ErrArg, strings.Repeat(b, count))
		}
	}
	for count := 2; count <= longest; count++ {
		ones := strings.Repeat("1", count)
		for _, b := range []string{"0", "x", "\x00", "\x01", "\xff"} {
			add(api.ErrForm, strings.Repeat(b, count))
		}
		add(api.ErrForm, "0"+ones[1:])
		add(api.ErrForm, ones[1:]+"0")
		for i := range count {
			for _, b := range otherBytes() {
				add(api.ErrForm, withByte(ones, i, b))
			}
		}
	}
	// Bytes count, not letters, which may have several bytes each.
	for _, by := range []string{"é", "1é", "1é1", "\uff11\uff11", "1\uff101", "1 1", "1\n1", " 11", "11 ", "11\n", "+11", "1_1", "11\x00"} {
		add(api.ErrForm, by)
	}
	add(api.ErrArg, strings.Repeat("é", 9))
	return all
}

// badStrings are strings that are not allowed where most bytes are, with what
// is wrong.
func badStrings(most int) []wrong {
	var all []wrong
	add := func(err api.Errno, s string) {
		all = append(all, wrong{arguments{s, ""}, err})
	}
	for _, count := range []int{most + 1, most + 2, most + 16, most + 17, most + 256, 256, 512, 65536, 65536 + most} {
		for _, b := range []string{"0", "1", "x", "\xff"} {
			// Too many are too many before one of them is wrong.
			add(api.ErrLarge, strings.Repeat(b, count))
		}
	}
	for _, count := range []int{1, 2, 3, 5, 15, 16, 17, 40, most - 1, most} {
		for _, b := range []byte{'x', '2', '/', ' ', 0, 1, '0' | 0x80, '1' | 0x80, 0xff} {
			add(api.ErrForm, strings.Repeat(string([]byte{b}), count))
			for _, i := range []int{0, count / 2, count - 1} {
				add(api.ErrForm, withByte(strings.Repeat("0", count), i, b))
				add(api.ErrForm, withByte(strings.Repeat("1", count), i, b))
			}
		}
	}
	for _, b := range otherBytes() {
		add(api.ErrForm, withByte("10101", 2, b))
	}
	for _, s := range []string{"é", "1é", "\uff11", "1 1", "1\n", "-1", "+1", "1_1", "0b1"} {
		add(api.ErrForm, s)
	}
	return all
}

// wrongs are arguments that are not allowed where s may have most bytes, with
// what is wrong first.
func wrongs(most int) []wrong {
	var all []wrong
	for _, w := range badGenerators() {
		for _, s := range []string{"", "1", "x", "10", "101", strings.Repeat("0", most), strings.Repeat("x", most+1)} {
			all = append(all, wrong{arguments{s, w.by}, w.err})
		}
	}
	for _, w := range badStrings(most) {
		for _, by := range []string{"11", "101", "1011", "100000111", strings.Repeat("1", longest)} {
			all = append(all, wrong{arguments{w.s, by}, w.err})
		}
	}
	return all
}

// rights are generators with strings of every length that Get allows. Many have
// no valid check.
func rights() []arguments {
	next := numbers()
	var all []arguments
	for _, by := range someGenerators(next) {
		for count := range mostGet + 1 {
			all = append(all, arguments{anyBits(count, next), by})
			if count >= len(by) {
				all = append(all, arguments{product(anyBits(count-len(by)+1, next), by), by})
			}
		}
	}
	return all
}

// result of a call.
type result struct {
	s   string
	err api.Errno
}

// eachCall visits the calls of all functions, with right and wrong arguments.
func eachCall(visit func(name string, a arguments, call func() result)) {
	all := rights()
	for _, w := range slices.Concat(wrongs(mostPut), wrongs(mostGet)) {
		all = append(all, w.arguments)
	}
	for _, a := range all {
		visit("Check", a, func() result {
			return result{"", cyclic.Check(a.by)}
		})
		visit("Put", a, func() result {
			s, err := cyclic.Put(a.s, a.by)
			return result{s, err}
		})
		visit("Get", a, func() result {
			s, err := cyclic.Get(a.s, a.by)
			return result{s, err}
		})
	}
}

func TestP1NoArgumentPanics(t *testing.T) {
	eachCall(func(name string, a arguments, call func() result) {
		defer func() {
			if r := recover(); r != nil {
				t.Errorf("%s(%q, %q) panics: %v", name, a.s, a.by, r)
			}
		}()
		call()
	})
}

func TestP2ResultsDependOnlyOnArguments(t *testing.T) {
	type visited struct {
		name  string
		a     arguments
		call  func() result
		first result
	}
	var calls []visited
	eachCall(func(name string, a arguments, call func() result) {
		calls = append(calls, visited{name, a, call, call()})
	})
	check := func(v visited) {
		if again := v.call(); again != v.first {
			t.Errorf("%s(%q, %q): first %v, then %v", v.name, v.a.s, v.a.by, v.first, again)
		}
	}
	for _, v := range calls {
		check(v)
	}
	// Nor does it count which calls come before.
	for _, v := range slices.Backward(calls) {
		check(v)
	}
}

func TestP2OtherResultsAreZeroWithAnError(t *testing.T) {
	eachCall(func(name string, a arguments, call func() result) {
		if r := call(); r.err != api.OK && r.s != "" {
			t.Errorf("%s(%q, %q) = %v with an error", name, a.s, a.by, r)
		}
	})
}

// checkPut checks a result of Put without an error.
func checkPut(t *testing.T, s, by, want string) {
	t.Helper()
	if got, err := cyclic.Put(s, by); got != want || err != api.OK {
		t.Errorf("Put(%q, %q) = %q, %d, want %q", s, by, got, err, want)
	}
}

// checkGet checks a result of Get.
func checkGet(t *testing.T, s, by, want string, wantErr api.Errno) {
	t.Helper()
	if got, err := cyclic.Get(s, by); got != want || err != wantErr {
		t.Errorf("Get(%q, %q) = %q, %d, want %q, %d", s, by, got, err, want, wantErr)
	}
}

func TestP67Check(t *testing.T) {
	for _, by := range []string{"11", "101", "111", "1011", "100000111", "10001000000100001", "11111111111111111"} {
		if err := cyclic.Check(by); err != api.OK {
			t.Errorf("Check(%q) = %d", by, err)
		}
	}
}

// TestP67CheckOfAllBits checks all strings of bits with up to one byte more
// than a generator may have.
func TestP67CheckOfAllBits(t *testing.T) {
	for count := range longest + 2 {
		for _, by := range allBits(count) {
			want := api.ErrForm
			if count < 2 || count > longest {
				want = api.ErrArg
			} else if strings.HasPrefix(by, "1") && strings.HasSuffix(by, "1") {
				want = api.OK
			}
			if err := cyclic.Check(by); err != want {
				t.Errorf("Check(%q) = %d, want %d", by, err, want)
			}
		}
	}
}

func TestP67Errors(t *testing.T) {
	for _, w := range badGenerators() {
		if err := cyclic.Check(w.by); err != w.err {
			t.Errorf("Check(%q) = %d, want %d", w.by, err, w.err)
		}
	}
}

func TestP68Put(t *testing.T) {
	for _, c := range []struct{ s, by, want string }{
		{"101", "11", "1010"},
		{"1101", "1011", "1101001"},
		{"11010011101100", "1011", "11010011101100100"},
		{"", "11", "0"},
		{"0", "11", "00"},
		{"1", "11", "11"},
		{"111", "11", "1111"},
		{"", "1011", "000"},
		{"000", "1011", "000000"},
		{"1", "10001000000100001", "10001000000100001"},
		{"0001", "10001000000100001", "00010001000000100001"},
		{"", "11111111111111111", "0000000000000000"},
	} {
		checkPut(t, c.s, c.by, c.want)
	}
}

// TestP68KnownChecks compares with the published check values, for the text
// 123456789, of checks that many protocols use (by these names).
func TestP68KnownChecks(t *testing.T) {
	text := letters("123456789")
	for _, c := range []struct {
		name       string
		by         string
		check, len int
	}{
		{"CRC-7/MMC", "10001001", 0x75, 7},
		{"CRC-8/SMBUS", "100000111", 0xf4, 8},
		{"CRC-10/ATM", "11000110011", 0x199, 10},
		{"CRC-15/CAN", "1100010110011001", 0x059e, 15},
		{"CRC-16/UMTS", "11000000000000101", 0xfee8, 16},
		{"CRC-16/XMODEM", "10001000000100001", 0x31c3, 16},
	} {
		want := text + binary(c.check, c.len)
		if got, err := cyclic.Put(text, c.by); got != want || err != api.OK {
			t.Errorf("%s: Put = %q, %d, want %q", c.name, got, err, want)
		}
		checkGet(t, want, c.by, text, api.OK)
	}
}

// TestP68PutOfAllGenerators puts the string that has the generator as its
// result.
func TestP68PutOfAllGenerators(t *testing.T) {
	for count := 2; count <= longest; count++ {
		for _, by := range generators(count) {
			checkPut(t, "1", by, by)
			checkPut(t, "01", by, "0"+by)
			checkPut(t, "", by, strings.Repeat("0", count-1))
		}
	}
}

// TestP68PutOfAllShortStrings compares with a search among all multiples.
func TestP68PutOfAllShortStrings(t *testing.T) {
	for length := 2; length <= 6; length++ {
		for _, by := range generators(length) {
			for count := range 8 {
				all := multiples(count+length-1, by)
				for _, s := range allBits(count) {
					var found []string
					for _, multiple := range all {
						if strings.HasPrefix(multiple, s) {
							found = append(found, multiple)
						}
					}
					if len(found) != 1 {
						t.Fatalf("%d multiples of %q begin with %q", len(found), by, s)
					}
					checkPut(t, s, by, found[0])
				}
			}
		}
	}
}

// TestP68PutOfEveryLength makes multiples of every length, and puts what they
// begin with. As the first bit of a generator is 1, there is one for each s.
func TestP68PutOfEveryLength(t *testing.T) {
	next := numbers()
	for _, by := range someGenerators(next) {
		for count := range mostPut + 1 {
			multiple := product(anyBits(count, next), by)
			checkPut(t, multiple[:count], by, multiple)
		}
	}
}

// coefficients returns the polynomial as package poly has it.
func coefficients(s string) []int {
	var f []int
	for i := range len(s) {
		f = append([]int{int(s[i] - '0')}, f...)
	}
	for len(f) > 0 && f[len(f)-1] == 0 {
		f = f[:len(f)-1]
	}
	return f
}

// TestP68DivisionLeavesNothing divides by package poly, as far as it goes.
func TestP68DivisionLeavesNothing(t *testing.T) {
	next := numbers()
	for _, by := range someGenerators(next) {
		for count := 0; count+len(by)-1 <= api.MaxTerms; count++ {
			s := anyBits(count, next)
			got, err := cyclic.Put(s, by)
			if err != api.OK || len(got) != count+len(by)-1 || !strings.HasPrefix(got, s) {
				t.Fatalf("Put(%q, %q) = %q, %d", s, by, got, err)
			}
			_, rest, err := poly.Div(2, coefficients(got), coefficients(by))
			if err != api.OK || len(rest) != 0 {
				t.Errorf("Put(%q, %q) = %q, which leaves %v, %d", s, by, got, rest, err)
			}
		}
	}
}

func TestP68Errors(t *testing.T) {
	for _, w := range wrongs(mostPut) {
		if s, err := cyclic.Put(w.s, w.by); s != "" || err != w.err {
			t.Errorf("Put(%q, %q) = %q, %d, want error %d", w.s, w.by, s, err, w.err)
		}
	}
	// The bound is for s, however long the result is.
	for _, by := range []string{"11", strings.Repeat("1", longest)} {
		zeros := strings.Repeat("0", mostPut)
		checkPut(t, zeros, by, zeros+strings.Repeat("0", len(by)-1))
	}
}

func TestP69Get(t *testing.T) {
	for _, c := range []struct {
		s, by, want string
		err         api.Errno
	}{
		{"1010", "11", "101", api.OK},
		{"1011", "11", "", api.ErrSum},
		{"1101001", "1011", "1101", api.OK},
		{"1101011", "1011", "", api.ErrSum},
		{"11010011101100100", "1011", "11010011101100", api.OK},
		{"11010011101100101", "1011", "", api.ErrSum},
		{"0", "11", "", api.OK},
		{"1", "11", "", api.ErrSum},
		{"11", "11", "1", api.OK},
		{"00", "11", "0", api.OK},
		{"000", "1011", "", api.OK},
		{"100", "1011", "", api.ErrSum},
		{"001", "1011", "", api.ErrSum},
		{"0001011", "1011", "0001", api.OK},
		{"", "11", "", api.ErrShort},
		{"11", "1011", "", api.ErrShort},
		{"00", "1011", "", api.ErrShort},
		{"0000000000000000", "11111111111111111", "", api.OK},
		{"000000000000000", "11111111111111111", "", api.ErrShort},
		{"11111111111111111", "11111111111111111", "1", api.OK},
	} {
		checkGet(t, c.s, c.by, c.want, c.err)
	}
}

// TestP69GetOfAllShortStrings compares with a search among all multiples.
func TestP69GetOfAllShortStrings(t *testing.T) {
	for length := 2; length <= 6; length++ {
		for _, by := range generators(length) {
			for count := range 10 {
				if count < length-1 {
					for _, s := range allBits(count) {
						checkGet(t, s, by, "", api.ErrShort)
					}
					continue
				}
				all := multiples(count, by)
				for _, s := range allBits(count) {
					if slices.Contains(all, s) {
						checkGet(t, s, by, s[:count-length+1], api.OK)
					} else {
						checkGet(t, s, by, "", api.ErrSum)
					}
				}
			}
		}
	}
}

// TestP69GetOfEveryLength gets multiples of every length, with and without
// changes.
func TestP69GetOfEveryLength(t *testing.T) {
	next := numbers()
	for _, by := range someGenerators(next) {
		for count := len(by) - 1; count <= mostGet; count++ {
			kept := count - len(by) + 1
			multiple := product(anyBits(kept, next), by)
			checkGet(t, multiple, by, multiple[:kept], api.OK)
			checkGet(t, changed(multiple, count-1, "1"), by, "", api.ErrSum)
			checkGet(t, changed(multiple, next(count), "1"), by, "", api.ErrSum)
		}
	}
}

// changed returns s with the other bit at each place, from i on, where the
// change has a 1.
func changed(s string, i int, change string) string {
	bits := []byte(s)
	for j := range len(change) {
		if change[j] == '1' {
			bits[i+j] ^= '0' ^ '1'
		}
	}
	return string(bits)
}

// TestP69ShortChangesAreFound changes what was put, at places that are no
// further apart than the check is long: no generator divides such a change.
func TestP69ShortChangesAreFound(t *testing.T) {
	next := numbers()
	for _, by := range someGenerators(next) {
		for _, count := range []int{0, 1, 2, 7, 40, mostPut} {
			s := anyBits(count, next)
			word, err := cyclic.Put(s, by)
			if err != api.OK {
				t.Fatalf("Put(%q, %q) has error %d", s, by, err)
			}
			checkGet(t, word, by, s, api.OK)
			for i := range len(word) {
				most := min(len(by)-1, len(word)-i)
				checkGet(t, changed(word, i, "1"), by, "", api.ErrSum)
				checkGet(t, changed(word, i, strings.Repeat("1", most)), by, "", api.ErrSum)
				checkGet(t, changed(word, i, "1"+anyBits(most-1, next)), by, "", api.ErrSum)
				// The generator itself is the shortest change that is not found.
				if i+len(by) <= len(word) {
					checkGet(t, changed(word, i, by), by, changed(word, i, by)[:count], api.OK)
				}
			}
		}
	}
}

func TestP69Errors(t *testing.T) {
	for _, w := range wrongs(mostGet) {
		checkGet(t, w.s, w.by, "", w.err)
	}
	for length := 2; length <= longest; length++ {
		by := strings.Repeat("1", length)
		for count := range length - 1 {
			checkGet(t, strings.Repeat("0", count), by, "", api.ErrShort)
			checkGet(t, strings.Repeat("1", count), by, "", api.ErrShort)
			// A wrong byte goes before that there are too few.
			if count > 0 {
				checkGet(t, strings.Repeat("1", count-1)+"x", by, "", api.ErrForm)
			}
		}
		// The bound is the same for every generator.
		zeros := strings.Repeat("0", mostGet)
		checkGet(t, zeros, by, zeros[:mostGet-length+1], api.OK)
		checkGet(t, zeros+"0", by, "", api.ErrLarge)
	}
}
