// Package num: numbers that do not go over.
package num

import "lychway/api"

// Check a number (P1.1).
func Check(n int) api.Errno {
	if n < -api.MaxNumber || n > api.MaxNumber {
		return api.ErrOver
	}
	return api.OK
}

// Add two numbers (P1.2).
func Add(a, b int) (int, api.Errno) {
	return bounded(a, b, func() int { return a + b })
}

// Sub: one less another one (P1.2).
func Sub(a, b int) (int, api.Errno) {
	return bounded(a, b, func() int { return a - b })
}

// Mul: their product (P1.2).
func Mul(a, b int) (int, api.Errno) {
	return bounded(a, b, func() int { return product(a, b) })
}

// Div: how often one goes into another one (P1.3).
func Div(a, b int) (int, api.Errno) {
	return divided(a, b, func() int { return quotient(a, b) })
}

// Mod: what is left (P1.3).
func Mod(a, b int) (int, api.Errno) {
	return divided(a, b, func() int { return a - b*quotient(a, b) })
}

// bounded delays a computation until its operands are known to be in range,
// because outside of it the computation could wrap around.
func bounded(a, b int, compute func() int) (int, api.Errno) {
	if Check(a) != api.OK || Check(b) != api.OK {
		return 0, api.ErrOver
	}
	n := compute()
	if e := Check(n); e != api.OK {
		return 0, e
	}
	return n, api.OK
}

// divided is bounded for computations that divide by b.
func divided(a, b int, compute func() int) (int, api.Errno) {
	if e := Check(a); e != api.OK { // it comes before a division by zero
		return 0, e
	}
	if b == 0 {
		return 0, api.ErrZero
	}
	return bounded(a, b, compute)
}

// product of two numbers in range. As it may need more than 64 bits, each
// product out of range is represented by the same number out of range.
func product(a, b int) int {
	if a != 0 && magnitude(b) > api.MaxNumber/magnitude(a) {
		return api.MaxNumber + 1
	}
	return a * b
}

// quotient of two numbers in range, b not 0, rounded toward negative infinity.
func quotient(a, b int) int {
	q := a / b
	if a%b != 0 && (a < 0) != (b < 0) { // Go rounds toward zero
		q--
	}
	return q
}

// magnitude of a number in range: its distance from 0.
func magnitude(n int) int {
	if n < 0 {
		return -n
	}
	return n
}
