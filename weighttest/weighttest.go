// Package weighttest makes lists of weights for the tests of other packages; the library itself doesn't use it.
package weighttest

import (
	"math"
	"slices"

	"lotdrawer/api"
	"lotdrawer/pooltest"
)

// Case is a list of weights, and what is special about it.
type Case struct {
	What    string
	Weights []int
}

// Same returns n equal weights.
func Same(weight, n int) []int {
	return slices.Repeat([]int{weight}, n)
}

// Scattered returns n weights without a pattern, each below limit.
func Scattered(seed uint64, n, limit int) []int {
	weights := make([]int, n)
	for i := range weights {
		seed = seed*6364136223846793005 + 1442695040888963407
		weights[i] = int(seed>>32) % limit
	}
	return weights
}

// Total returns the sum of all weights.
func Total(weights []int) int {
	sum := 0
	for _, weight := range weights {
		sum += weight
	}
	return sum
}

// Many returns long lists of weights, and those with the largest weights; none of them has the sum 0.
func Many(maxWeight int) [][]int {
	falling := pooltest.Span(0, api.MaxOps)
	slices.Reverse(falling)
	l := [][]int{
		Same(1, api.MaxOps),
		Same(maxWeight, api.MaxOps),
		append(Same(0, api.MaxOps-1), maxWeight),
		append([]int{maxWeight}, Same(0, api.MaxOps-1)...),
		append(Same(maxWeight, api.MaxOps-1), 0),
		append([]int{0}, Same(maxWeight, api.MaxOps-1)...),
		append(Same(maxWeight, api.MaxOps-1), maxWeight-1),
		append([]int{1}, Same(maxWeight, api.MaxOps-1)...),
		pooltest.Span(0, api.MaxOps),
		pooltest.Span(1, api.MaxOps+1),
		falling,
	}
	for i, limit := range []int{2, 3, 10, 1000, maxWeight + 1} {
		for _, n := range []int{1, 2, 7, 8, 9, 50, 255, 256, 257, 399, api.MaxOps} {
			if weights := Scattered(uint64(1000*i+n), n, limit); Total(weights) > 0 {
				l = append(l, weights)
			}
		}
	}
	return l
}

// Invalid returns lists of more than MaxOps weights, or with a weight that is not between 0 and maxWeight.
func Invalid(maxWeight int) []Case {
	return []Case{
		{"below 0", []int{-1}},
		{"the first below 0", []int{-1, 2, 3}},
		{"the last below 0", []int{2, 3, -1}},
		{"below 0 although the sum isn't", []int{3, -1, 3}},
		{"below 0 with a sum of 0", []int{1, -1}},
		{"the last below 0, after zeros", []int{0, 0, -1}},
		{"the least", []int{1, math.MinInt, 1}},
		{"too large", []int{maxWeight + 1}},
		{"the first too large", []int{maxWeight + 1, 0, 0}},
		{"the last too large", []int{0, 0, maxWeight + 1}},
		{"the largest", []int{1, math.MaxInt, 1}},
		{"a sum that would overflow", []int{math.MaxInt, math.MaxInt, 3}},
		{"too many", Same(1, api.MaxOps+1)},
		{"too many zeros", Same(0, api.MaxOps+1)},
		{"too many by far", Same(1, 1000)},
		{"the first of 400 below 0", append([]int{-1}, Same(1, api.MaxOps-1)...)},
		{"the last of 400 too large", append(Same(0, api.MaxOps-1), maxWeight+1)},
		{"too many, one of them too large", append(Same(0, api.MaxOps), maxWeight+1)},
	}
}
