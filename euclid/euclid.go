// Package euclid: what two numbers have in common: see doc/01-euclid.md.
package euclid

import "wholemend/api"

// Gcd returns the greatest common divisor of a and b, 0 if both are 0: P3.
func Gcd(a, b int) (int, api.Errno) {
	if !inRange(a) || !inRange(b) {
		return 0, api.ErrArg
	}
	a, b = abs(a), abs(b)
	for b != 0 {
		a, b = b, a%b
	}
	return a, api.OK
}

// Lcm returns the least common multiple of a and b, 0 if one of them is 0: P3.
func Lcm(a, b int) (int, api.Errno) {
	g, err := Gcd(a, b)
	if err != api.OK {
		return 0, err
	}
	if g == 0 {
		return 0, api.OK
	}
	return abs(a) / g * abs(b), api.OK
}

// Bezout returns x, y and g with x*a + y*b = g, the gcd of a and b: P4.
func Bezout(a, b int) (int, int, int, api.Errno) {
	g, err := Gcd(a, b)
	if err != api.OK {
		return 0, 0, 0, err
	}
	if b == 0 {
		return sign(a), 0, g, api.OK
	}
	// All the x that fit lie |b|/g apart, so the smallest is a remainder.
	x := mod(factor(mod(a, abs(b)), abs(b)), abs(b)/g)
	return x, (g - x*a) / b, g, api.OK
}

// Steps returns how often the Euclidean algorithm divides, from (a, b): P5.
func Steps(a, b int) (int, api.Errno) {
	if a < 0 || b < 0 || !inRange(a) || !inRange(b) {
		return 0, api.ErrArg
	}
	count := 0
	for b != 0 {
		a, b = b, a%b
		count++
	}
	return count, api.OK
}

// factor returns an x such that x*a leaves the rest gcd(a, m) modulo m,
// for 0 <= a < m.
func factor(a, m int) int {
	// Throughout, x*a is r and nextX*a is nextR, modulo m.
	r, nextR := m, a
	x, nextX := 0, 1
	for nextR != 0 {
		q := r / nextR
		r, nextR = nextR, r-q*nextR
		x, nextX = nextX, x-q*nextX
	}
	return x
}

func inRange(n int) bool {
	return -api.MaxInt <= n && n <= api.MaxInt
}

func abs(n int) int {
	if n < 0 {
		return -n
	}
	return n
}

func sign(n int) int {
	switch {
	case n < 0:
		return -1
	case n > 0:
		return 1
	}
	return 0
}

// mod returns the remainder of n divided by m > 0, which is not negative.
func mod(n, m int) int {
	if n < 0 {
		// n%m is more than -m, so this stays in range for every n.
		return (n%m + m) % m
	}
	return n % m
}
