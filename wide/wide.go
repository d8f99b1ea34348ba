// Package wide is layer 1: numbers of 128 bits, in two halves. See shared/doc/01-wide.md.
package wide

import "iter"

// most is the greatest number of 64 bits.
const most uint64 = 1<<64 - 1

// Mul tells the halves of a times b.
func Mul(a, b uint64) (uint64, uint64) {
	var high, low uint64
	for bit := range bitsDown(b) {
		high, low = double(high, low)
		if bit == 1 {
			high, low = Add(high, low, a)
		}
	}
	return high, low
}

// Add tells the halves of the number and more, modulo 2^128.
func Add(high, low, more uint64) (uint64, uint64) {
	sum := low + more
	if sum < low { // it went round, so 1 goes over into the high half
		high++
	}
	return high, sum
}

// Div tells how often by goes into the number, what is left over, and true; 0, 0 and false, if by is 0, or the quotient is 2^64 or more.
func Div(high, low, by uint64) (uint64, uint64, bool) {
	// By goes into the number 2^64 times or more just when it goes into the high half alone.
	if by == 0 || high >= by {
		return 0, 0, false
	}
	// So long division may begin behind the high half: all of that is left over there.
	var times uint64
	rest := high
	for bit := range bitsDown(low) {
		// What is left over is below by, but twice that may need a bit more than 64.
		over := rest >> 63
		rest = rest<<1 | bit
		times <<= 1
		if over == 1 || rest >= by {
			rest -= by // right also with that bit: it goes round
			times |= 1
		}
	}
	return times, rest, true
}

// Scale tells a times b, divided by by, rounded down; 2^64 - 1, if that is more, or by is 0.
func Scale(a, b, by uint64) uint64 {
	high, low := Mul(a, b)
	times, _, ok := Div(high, low, by)
	if !ok {
		return most
	}
	return times
}

// double tells the halves of twice the number, modulo 2^128.
func double(high, low uint64) (uint64, uint64) {
	return high<<1 | low>>63, low << 1
}

// bitsDown goes through n's 64 bits, each 0 or 1, the highest one first: so whoever doubles what they have at each one needs no place value.
func bitsDown(n uint64) iter.Seq[uint64] {
	return func(yield func(uint64) bool) {
		for i := range 64 {
			if !yield(n >> (63 - i) & 1) {
				return
			}
		}
	}
}
