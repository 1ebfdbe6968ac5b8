// Package pooltest makes reservoirs and their choices for the tests of other packages; the library itself doesn't use it.
package pooltest

import (
	"math"
	"slices"
	"strconv"
	"strings"

	"lotdrawer/api"
)

// Span returns the numbers from low to high-1 in order.
func Span(low, high int) []int {
	var l []int
	for number := low; number < high; number++ {
		l = append(l, number)
	}
	return l
}

// Of returns a reservoir; nothing of it is checked.
func Of(room, came int, has ...int) api.Pool {
	return api.Pool{Room: room, Came: came, Has: has}
}

// Invalid returns reservoirs that break one rule each, or several.
func Invalid() []api.Pool {
	return []api.Pool{
		{},
		Of(0, 1),
		Of(0, 1, 7),
		Of(-1, 0),
		Of(-1, 1, 7),
		Of(math.MinInt, 0),
		Of(401, 0),
		Of(401, 1, 7),
		Of(401, 401, Span(0, 401)...),
		Of(math.MaxInt, 0),
		Of(2, -1),
		Of(2, -1, 7),
		Of(2, math.MinInt),
		Of(2, api.MaxCount+1, 7, 8),
		Of(2, math.MaxInt, 7, 8),
		Of(2, 0, 7),
		Of(2, 1),
		Of(2, 1, 7, 8),
		Of(2, 2),
		Of(2, 2, 7),
		Of(2, 2, 7, 8, 9),
		Of(2, 3, 7),
		Of(2, 3, 7, 8, 9),
		Of(2, api.MaxCount),
		Of(400, 400, Span(0, 399)...),
		Of(400, 401, Span(0, 401)...),
		Of(0, -1),
		Of(401, api.MaxCount+1, 7),
	}
}

// Equal reports whether a and b are equal; a nil sample is an empty one.
func Equal(a, b api.Pool) bool {
	return a.Room == b.Room && a.Came == b.Came && slices.Equal(a.Has, b.Has)
}

// Choices calls f with every list of choices in which the one at i is below limits[i].
func Choices(limits []int, f func(draws []int)) {
	count := 1
	for _, limit := range limits {
		count *= limit
	}
	for number := range count {
		draws := make([]int, len(limits))
		for i, limit := range limits {
			draws[i] = number % limit
			number /= limit
		}
		f(draws)
	}
}

// Sample returns the elements of p as text, the same for every order.
func Sample(p api.Pool) string {
	var words []string
	for _, element := range slices.Sorted(slices.Values(p.Has)) {
		words = append(words, strconv.Itoa(element))
	}
	return strings.Join(words, " ")
}

// Uniform reports whether there are so many samples, each with the same weight.
func Uniform(weights map[string]int, samples int) bool {
	all := 0
	for _, weight := range weights {
		all += weight
	}
	for _, weight := range weights {
		if weight*samples != all {
			return false
		}
	}
	return len(weights) == samples
}
