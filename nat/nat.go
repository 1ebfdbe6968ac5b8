// Package nat: natural numbers of many words, least significant word first; see doc/01-nat.md.
package nat

import (
	"cmp"
	"math/bits"

	"lotdrawer/api"
)

// maxFactors is the most factors that Falling multiplies.
const maxFactors = 300

// Right reports whether a is valid: not too long, and without a leading zero word.
func Right(a []uint64) bool {
	n := len(a)
	return n <= api.MaxBig && (n == 0 || a[n-1] != 0)
}

// Of returns n as a natural number.
func Of(n uint64) []uint64 {
	return trim([]uint64{n})
}

// Cmp returns -1, 0 or 1 as a is less than, equal to or greater than b.
func Cmp(a, b []uint64) (int, api.Errno) {
	if !Right(a) || !Right(b) {
		return 0, api.ErrForm
	}
	return compare(a, b), api.OK
}

// Add returns a + b.
func Add(a, b []uint64) ([]uint64, api.Errno) {
	if !Right(a) || !Right(b) {
		return nil, api.ErrForm
	}
	n := max(len(a), len(b))
	sum := make([]uint64, n+1)
	carry := uint64(0)
	for i := range n {
		sum[i], carry = bits.Add64(wordAt(a, i), wordAt(b, i), carry)
	}
	sum[n] = carry
	return fit(sum)
}

// Sub returns a - b.
func Sub(a, b []uint64) ([]uint64, api.Errno) {
	if !Right(a) || !Right(b) {
		return nil, api.ErrForm
	}
	if compare(a, b) < 0 {
		return nil, api.ErrRange
	}
	difference := make([]uint64, len(a))
	borrow := uint64(0)
	for i, word := range a {
		difference[i], borrow = bits.Sub64(word, wordAt(b, i), borrow)
	}
	return trim(difference), api.OK
}

// Mul returns a * b.
func Mul(a, b []uint64) ([]uint64, api.Errno) {
	if !Right(a) || !Right(b) {
		return nil, api.ErrForm
	}
	product := make([]uint64, len(a)+len(b))
	for i, word := range a {
		product[i+len(b)] = addTimes(product[i:i+len(b)], b, word)
	}
	return fit(product)
}

// Div returns the quotient of a and b, rounded down, and the remainder.
func Div(a []uint64, b uint64) ([]uint64, uint64, api.Errno) {
	if !Right(a) {
		return nil, 0, api.ErrForm
	}
	if b == 0 {
		return nil, 0, api.ErrRange
	}
	quotient := make([]uint64, len(a))
	rest := uint64(0)
	for i := len(a) - 1; i >= 0; i-- {
		// rest < b always holds here, which bits.Div64 needs in order not to panic.
		quotient[i], rest = bits.Div64(rest, a[i], b)
	}
	return trim(quotient), rest, api.OK
}

// Falling returns n * (n-1) * (n-2) * .., a product of so many factors.
func Falling(n uint64, many int) ([]uint64, api.Errno) {
	if many < 0 || many > maxFactors {
		return nil, api.ErrRange
	}
	factors := uint64(many)
	if n < factors {
		// One of the factors is 0; going on past it would wrap around.
		return nil, api.OK
	}
	product := Of(1)
	for i := range factors {
		next, errno := Mul(product, Of(n-i))
		if errno != api.OK {
			// No factor is 0, so the product can't become small enough again.
			return nil, errno
		}
		product = next
	}
	return product, api.OK
}

// compare is Cmp of valid numbers: without leading zero words, the longer one is the greater.
func compare(a, b []uint64) int {
	if len(a) != len(b) {
		return cmp.Compare(len(a), len(b))
	}
	for i := len(a) - 1; i >= 0; i-- {
		if a[i] != b[i] {
			return cmp.Compare(a[i], b[i])
		}
	}
	return 0
}

// wordAt returns word i of a, which is 0 beyond its end.
func wordAt(a []uint64, i int) uint64 {
	if i < len(a) {
		return a[i]
	}
	return 0
}

// addTimes adds b * factor to sum, which has as many words as b, and returns the carry.
func addTimes(sum, b []uint64, factor uint64) uint64 {
	carry := uint64(0)
	for i, word := range b {
		// With m = 2^64 - 1, all of it is at most m*m + m + m = 2^128 - 1: high can't overflow.
		high, low := bits.Mul64(word, factor)
		low, over := bits.Add64(low, sum[i], 0)
		high += over
		sum[i], over = bits.Add64(low, carry, 0)
		carry = high + over
	}
	return carry
}

// trim returns a without its leading zero words.
func trim(a []uint64) []uint64 {
	n := len(a)
	for n > 0 && a[n-1] == 0 {
		n--
	}
	return a[:n]
}

// fit returns a without its leading zero words, unless it is still too long then.
func fit(a []uint64) ([]uint64, api.Errno) {
	a = trim(a)
	if len(a) > api.MaxBig {
		return nil, api.ErrFull
	}
	return a, api.OK
}
