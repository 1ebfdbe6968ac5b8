// Package tapetest makes tapes of bits for the tests of other packages; the library itself doesn't use it.
package tapetest

import (
	"slices"
	"strconv"
	"strings"
)

// Of returns the bits of a string of digits 0 and 1; spaces only separate groups.
func Of(digits string) []bool {
	var t []bool
	for _, digit := range strings.ReplaceAll(digits, " ", "") {
		t = append(t, digit == '1')
	}
	return t
}

// Digits returns the last so many binary digits of number.
func Digits(number, width int) string {
	digits := ""
	for range width {
		digits = strconv.Itoa(number&1) + digits
		number >>= 1
	}
	return digits
}

// All returns every tape of a length, as digits.
func All(length int) []string {
	var all []string
	for number := range 1 << length {
		all = append(all, Digits(number, length))
	}
	return all
}

// WithSpare returns t with spare capacity that a function must neither read nor write.
func WithSpare(t []bool, spare []bool) []bool {
	return append(slices.Clone(t), spare...)[:len(t)]
}
