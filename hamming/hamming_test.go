package hamming_test

import (
	"math"
	"slices"
	"testing"

	"wholemend/api"
	"wholemend/hamming"
)

const (
	dataCount = 1 << 11 // how many data there are
	wordCount = 1 << 15 // how many words there are
	allCount  = 1 << 16 // how many arguments there are, with those not allowed
)

// isValid tells whether the positions with a 1, added without carries, cancel.
func isValid(word int) bool {
	for binary := 1; binary <= 8; binary *= 2 {
		ones := 0
		for position := 1; position <= 15; position++ {
			if position/binary%2 == 1 {
				ones += word >> (position - 1) % 2
			}
		}
		if ones%2 == 1 {
			return false
		}
	}
	return true
}

// without returns the number whose bits are those of word without bit k.
func without(word, k int) int {
	return word>>(k+1)<<k + word%(1<<k)
}

// dataOf returns the bits of word without those of positions 8, 4, 2 and 1.
func dataOf(word int) int {
	for _, k := range []int{7, 3, 1, 0} {
		word = without(word, k)
	}
	return word
}

// validWords returns, for all data, the valid words that have them.
func validWords() [dataCount][]int {
	var all [dataCount][]int
	for word := range wordCount {
		if isValid(word) {
			all[dataOf(word)] = append(all[dataOf(word)], word)
		}
	}
	return all
}

// result of a call.
type result struct {
	bits     uint16
	position int
	err      api.Errno
}

// eachCall visits the calls of both functions with all arguments.
func eachCall(visit func(name string, argument uint16, call func() result)) {
	for i := range allCount {
		argument := uint16(i)
		visit("Put", argument, func() result {
			word, err := hamming.Put(argument)
			return result{word, 0, err}
		})
		visit("Get", argument, func() result {
			data, position, err := hamming.Get(argument)
			return result{data, position, err}
		})
	}
}

func TestP1NoArgumentPanics(t *testing.T) {
	eachCall(func(name string, argument uint16, call func() result) {
		defer func() {
			if r := recover(); r != nil {
				t.Errorf("%s(%d) panics: %v", name, argument, r)
			}
		}()
		call()
	})
}

func TestP2ResultsDependOnlyOnArguments(t *testing.T) {
	type visited struct {
		name     string
		argument uint16
		call     func() result
		first    result
	}
	var calls []visited
	eachCall(func(name string, argument uint16, call func() result) {
		calls = append(calls, visited{name, argument, call, call()})
	})
	check := func(v visited) {
		if again := v.call(); again != v.first {
			t.Errorf("%s(%d): first %v, then %v", v.name, v.argument, v.first, again)
		}
	}
	for _, v := range calls {
		check(v)
	}
	// Nor does it count which calls come before.
	for _, v := range slices.Backward(calls) {
		check(v)
	}
}

func TestP2OtherResultsAreZeroWithAnError(t *testing.T) {
	eachCall(func(name string, argument uint16, call func() result) {
		if r := call(); r.err != api.OK && (r.bits != 0 || r.position != 0) {
			t.Errorf("%s(%d) = %v with an error", name, argument, r)
		}
	})
}

func TestP65Put(t *testing.T) {
	for _, c := range []struct{ data, want uint16 }{
		{0, 0},
		{1, 7},
		{2, 25},
		{3, 30},
		{4, 42},
		{8, 75},
		{16, 385},
		{32, 642},
		{64, 1155},
		{128, 2184},
		{256, 4233},
		{512, 8330},
		{1024, 16523},
		{2047, 32767},
	} {
		if word, err := hamming.Put(c.data); word != c.want || err != api.OK {
			t.Errorf("Put(%d) = %d, %d, want %d", c.data, word, err, c.want)
		}
	}
}

// TestP65PutOfAllData compares with a search among all words.
func TestP65PutOfAllData(t *testing.T) {
	for data, words := range validWords() {
		if len(words) != 1 {
			t.Fatalf("the data %d have %d valid words", data, len(words))
		}
		if word, err := hamming.Put(uint16(data)); int(word) != words[0] || err != api.OK {
			t.Errorf("Put(%d) = %d, %d, want %d", data, word, err, words[0])
		}
	}
}

func TestP65Errors(t *testing.T) {
	for data := dataCount; data < allCount; data++ {
		if word, err := hamming.Put(uint16(data)); word != 0 || err != api.ErrArg {
			t.Errorf("Put(%d) = %d, %d, want error %d", data, word, err, api.ErrArg)
		}
	}
}

func TestP66Get(t *testing.T) {
	for _, c := range []struct {
		word, data uint16
		position   int
	}{
		{0, 0, 0},
		{7, 1, 0},
		{25, 2, 0},
		{16523, 1024, 0},
		{32767, 2047, 0},
		// Parity bits are corrected as data bits are.
		{1, 0, 1},
		{2, 0, 2},
		{8, 0, 4},
		{128, 0, 8},
		{4, 0, 3},
		{16384, 0, 15},
		{6, 1, 1},
		{5, 1, 2},
		{3, 1, 3},
		{15, 1, 4},
		{16391, 1, 15},
		{32766, 2047, 1},
		{32639, 2047, 8},
		{16383, 2047, 15},
	} {
		data, position, err := hamming.Get(c.word)
		if data != c.data || position != c.position || err != api.OK {
			t.Errorf("Get(%d) = %d, %d, %d, want %d, %d", c.word, data, position, err, c.data, c.position)
		}
	}
}

// TestP66GetOfAllWords compares with a search for the valid word among those
// that differ in at most one bit.
func TestP66GetOfAllWords(t *testing.T) {
	for word := range wordCount {
		found := 0
		for position := range 16 {
			near := word
			if position > 0 {
				near ^= 1 << (position - 1)
			}
			if !isValid(near) {
				continue
			}
			found++
			data, at, err := hamming.Get(uint16(word))
			if int(data) != dataOf(near) || at != position || err != api.OK {
				t.Errorf("Get(%d) = %d, %d, %d, want %d, %d", word, data, at, err, dataOf(near), position)
			}
		}
		if found != 1 {
			t.Fatalf("%d valid words differ from %d in at most one bit", found, word)
		}
	}
}

// TestP66GetReturnsWhatWasPut puts all data, and changes each bit of the word.
func TestP66GetReturnsWhatWasPut(t *testing.T) {
	for data := range uint16(dataCount) {
		word, err := hamming.Put(data)
		if err != api.OK {
			t.Fatalf("Put(%d) has error %d", data, err)
		}
		for position := range 16 {
			changed := word
			if position > 0 {
				changed ^= 1 << (position - 1)
			}
			got, at, err := hamming.Get(changed)
			if got != data || at != position || err != api.OK {
				t.Errorf("Put(%d) = %d, but Get(%d) = %d, %d, %d", data, word, changed, got, at, err)
			}
		}
	}
}

func TestP66Errors(t *testing.T) {
	for word := wordCount; word <= math.MaxUint16; word++ {
		if data, position, err := hamming.Get(uint16(word)); data != 0 || position != 0 || err != api.ErrArg {
			t.Errorf("Get(%d) = %d, %d, %d, want error %d", word, data, position, err, api.ErrArg)
		}
	}
}
