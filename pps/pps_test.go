package pps_test

import (
	"math"
	"slices"
	"testing"

	"lotdrawer/api"
	"lotdrawer/pooltest"
	"lotdrawer/pps"
	"lotdrawer/weighttest"
)

const maxWeight = 1 << 20

// outside is numbers that many may not be.
var outside = []int{0, -1, math.MinInt, 401, 1000, math.MaxInt}

// each calls f with every list of up to 4 weights below 5 that has a sum above 0.
func each(f func(weights []int)) {
	for n := range 5 {
		pooltest.Choices(weighttest.Same(5, n), func(weights []int) {
			if weighttest.Total(weights) > 0 {
				f(weights)
			}
		})
	}
}

// line returns the owner of each integer, as the document lays them out.
func line(weights []int, many int) []int {
	var owners []int
	for k, weight := range weights {
		owners = append(owners, weighttest.Same(k, weight*many)...)
	}
	return owners
}

// refusal is arguments for which every function returns the error of Sum.
type refusal struct {
	what    string
	weights []int
	many    int
	errno   api.Errno
}

func refusals() []refusal {
	var l []refusal
	for _, c := range weighttest.Invalid(maxWeight) {
		for _, many := range append([]int{1, 2, 400}, outside...) {
			l = append(l, refusal{c.What, c.Weights, many, api.ErrRange})
		}
	}
	for _, weights := range [][]int{nil, {}, {0}, {0, 0, 0}, weighttest.Same(0, 400)} {
		for _, many := range []int{1, 2, 400} {
			l = append(l, refusal{"a sum of 0", weights, many, api.ErrNone})
		}
		for _, many := range outside {
			l = append(l, refusal{"ErrRange of many before ErrNone", weights, many, api.ErrRange})
		}
	}
	for _, weights := range [][]int{{1}, {1, 4, 1}, weighttest.Same(maxWeight, 400)} {
		for _, many := range outside {
			l = append(l, refusal{"many out of range", weights, many, api.ErrRange})
		}
	}
	return l
}

func TestSum(t *testing.T) {
	for _, c := range []struct {
		what    string
		weights []int
		many    int
		want    int
	}{
		{"three weights", []int{1, 4, 1}, 2, 6},
		{"one weight", []int{5}, 3, 5},
		{"the least sum", []int{0, 1, 0}, 1, 1},
		{"the least many", []int{2, 3}, 1, 5},
		{"the largest many", []int{2, 3}, 400, 5},
		{"more than there are weights", []int{2}, 7, 2},
		{"the first 0", []int{0, 3}, 2, 3},
		{"the last 0", []int{3, 0}, 2, 3},
		{"the largest weight", []int{maxWeight}, 1, maxWeight},
		{"the largest weight among others", []int{1, maxWeight, 2}, 1, maxWeight + 3},
		{"400 weights", pooltest.Span(0, 400), 9, 79800},
		{"only the last of 400", append(weighttest.Same(0, 399), 1), 1, 1},
		{"the largest sum", weighttest.Same(maxWeight, 400), 400, 400 * maxWeight},
	} {
		if got, errno := pps.Sum(c.weights, c.many); got != c.want || errno != api.OK {
			t.Errorf("%s: got %d and error %d, want %d", c.what, got, errno, c.want)
		}
	}
	for _, c := range refusals() {
		if got, errno := pps.Sum(c.weights, c.many); got != 0 || errno != c.errno {
			t.Errorf("%s, many %d: got %d and error %d, want error %d", c.what, c.many, got, errno, c.errno)
		}
	}
}

func TestSumIsOfAllWeights(t *testing.T) {
	check := func(weights []int) {
		for _, many := range []int{1, 2, 3, 399, 400} {
			if got, errno := pps.Sum(weights, many); got != weighttest.Total(weights) || errno != api.OK {
				t.Errorf("%v, many %d: got %d and error %d", weights, many, got, errno)
			}
		}
	}
	each(check)
	for _, weights := range weighttest.Many(maxWeight) {
		check(weights)
	}
}

func TestTake(t *testing.T) {
	weights := []int{1, 4, 1}
	for _, c := range []struct {
		what        string
		weights     []int
		many, start int
		want        []int
		errno       api.Errno
	}{
		{"example", weights, 2, 1, []int{0, 1}, api.OK},
		{"the least start", weights, 2, 0, []int{0, 1}, api.OK},
		{"the first of a segment", weights, 2, 2, []int{1, 1}, api.OK},
		{"the last of a segment", weights, 2, 3, []int{1, 1}, api.OK},
		{"the first of the last segment", weights, 2, 4, []int{1, 2}, api.OK},
		{"the last start", weights, 2, 5, []int{1, 2}, api.OK},
		{"one only", weights, 1, 4, []int{1}, api.OK},
		{"one only, the last", weights, 1, 5, []int{2}, api.OK},
		{"an index again and again", weights, 6, 0, []int{0, 1, 1, 1, 1, 2}, api.OK},
		{"more than there are weights", []int{1, 2}, 5, 2, []int{0, 1, 1, 1, 1}, api.OK},
		{"one weight", []int{3}, 4, 2, []int{0, 0, 0, 0}, api.OK},
		{"zeros first", []int{0, 0, 1}, 2, 0, []int{2, 2}, api.OK},
		{"zeros last", []int{1, 0, 0}, 2, 0, []int{0, 0}, api.OK},
		{"a zero between", []int{2, 0, 2}, 2, 3, []int{0, 2}, api.OK},
		{"equal weights", weighttest.Same(3, 4), 4, 2, []int{0, 1, 2, 3}, api.OK},
		{"the largest weight", []int{maxWeight}, 3, maxWeight - 1, []int{0, 0, 0}, api.OK},
		{"all of the largest weights", weighttest.Same(maxWeight, 400), 400, 0, pooltest.Span(0, 400), api.OK},
		{"the largest integer", weighttest.Same(maxWeight, 400), 400, 400*maxWeight - 1, pooltest.Span(0, 400), api.OK},
		{"the largest many", []int{1}, 400, 0, weighttest.Same(0, 400), api.OK},
		{"start at the sum", weights, 2, 6, nil, api.ErrRange},
		{"start above the sum, but on the line", weights, 2, 7, nil, api.ErrRange},
		{"start after the line", weights, 2, 12, nil, api.ErrRange},
		{"the largest start", weights, 2, math.MaxInt, nil, api.ErrRange},
		{"start below 0", weights, 2, -1, nil, api.ErrRange},
		{"the smallest start", weights, 2, math.MinInt, nil, api.ErrRange},
		{"start at the largest sum", weighttest.Same(maxWeight, 400), 400, 400 * maxWeight, nil, api.ErrRange},
		{"start below the sum with the spare capacity only", weights[:2], 2, 5, nil, api.ErrRange},
	} {
		got, errno := pps.Take(c.weights, c.many, c.start)
		if !slices.Equal(got, c.want) || errno != c.errno {
			t.Errorf("%s: got %v and error %d, want %v and error %d", c.what, got, errno, c.want, c.errno)
		}
	}
	for _, c := range refusals() {
		for _, start := range []int{0, 1, 2, -1, math.MinInt, 401, math.MaxInt} {
			if got, errno := pps.Take(c.weights, c.many, start); len(got) != 0 || errno != c.errno {
				t.Errorf("%s, many %d, start %d: got %v and error %d, want error %d", c.what, c.many, start, got, errno, c.errno)
			}
		}
	}
}

// TestTakeIsAsDescribed takes with every start, from lines short enough to be written out.
func TestTakeIsAsDescribed(t *testing.T) {
	each(func(weights []int) {
		sum := weighttest.Total(weights)
		for many := 1; many <= 6; many++ {
			owners := line(weights, many)
			for start := range sum {
				var want []int
				for i := range many {
					want = append(want, owners[start+i*sum])
				}
				if got, errno := pps.Take(weights, many, start); !slices.Equal(got, want) || errno != api.OK {
					t.Errorf("%v, many %d, start %d: got %v and error %d, want %v", weights, many, start, got, errno, want)
				}
			}
		}
	})
}

// checkTake reports indices that are not many, or don't own the integers they are taken for.
func checkTake(t *testing.T, weights []int, many, start int) {
	t.Helper()
	taken, errno := pps.Take(weights, many, start)
	if len(taken) != many || errno != api.OK {
		t.Fatalf("%v, many %d, start %d: got %v and error %d", weights, many, start, taken, errno)
	}
	for i, k := range taken {
		if k < 0 || k >= len(weights) {
			t.Fatalf("%v, many %d, start %d: got index %d", weights, many, start, k)
		}
		integer := start + i*weighttest.Total(weights)
		first := weighttest.Total(weights[:k]) * many
		if integer < first || integer >= first+weights[k]*many {
			t.Errorf("%v, many %d, start %d: got index %d for %d", weights, many, start, k, integer)
		}
	}
}

func TestTakeOfMany(t *testing.T) {
	for _, weights := range weighttest.Many(maxWeight) {
		sum := weighttest.Total(weights)
		for _, many := range []int{1, 2, 7, 399, 400} {
			for _, start := range []int{0, sum / 3, sum / 2, sum - 1} {
				checkTake(t, weights, many, start)
			}
		}
	}
}

func TestShare(t *testing.T) {
	weights := []int{1, 4, 1}
	for _, c := range []struct {
		what    string
		weights []int
		many, k int
		want    int
		errno   api.Errno
	}{
		{"a small weight", weights, 2, 0, 2, api.OK},
		{"a large weight", weights, 2, 1, 8, api.OK},
		{"the last index", weights, 2, 2, 2, api.OK},
		{"one only", weights, 1, 1, 4, api.OK},
		{"a weight of 0", []int{2, 0, 3}, 5, 1, 0, api.OK},
		{"one weight", []int{3}, 4, 0, 12, api.OK},
		{"the largest share", weighttest.Same(maxWeight, 400), 400, 399, 400 * maxWeight, api.OK},
		{"after the last index", weights, 2, 3, 0, api.ErrNone},
		{"the largest k", weights, 2, math.MaxInt, 0, api.ErrNone},
		{"k below 0", weights, 2, -1, 0, api.ErrNone},
		{"the smallest k", weights, 2, math.MinInt, 0, api.ErrNone},
		{"after the last index of 400", weighttest.Same(1, 400), 2, 400, 0, api.ErrNone},
		{"an index of the spare capacity only", weights[:2], 2, 2, 0, api.ErrNone},
	} {
		if got, errno := pps.Share(c.weights, c.many, c.k); got != c.want || errno != c.errno {
			t.Errorf("%s: got %d and error %d, want %d and error %d", c.what, got, errno, c.want, c.errno)
		}
	}
	for _, c := range refusals() {
		for _, k := range []int{0, 1, 2, -1, math.MinInt, 401, math.MaxInt} {
			if got, errno := pps.Share(c.weights, c.many, k); got != 0 || errno != c.errno {
				t.Errorf("%s, many %d, k %d: got %d and error %d, want error %d", c.what, c.many, k, got, errno, c.errno)
			}
		}
	}
}

// checkShares compares the share of each index with how often Take returns it over all values of start, and with its weight.
func checkShares(t *testing.T, weights []int, many int) {
	t.Helper()
	counts := make([]int, len(weights))
	for start := range weighttest.Total(weights) {
		taken, errno := pps.Take(weights, many, start)
		if errno != api.OK {
			t.Fatalf("%v, many %d, start %d: error %d", weights, many, start, errno)
		}
		for _, k := range taken {
			counts[k]++
		}
	}
	for k, count := range counts {
		if got, errno := pps.Share(weights, many, k); got != count || errno != api.OK {
			t.Errorf("%v, many %d: the share of %d is %d, error %d, but it is taken %d times", weights, many, k, got, errno, count)
		}
		if count != weights[k]*many {
			t.Errorf("%v, many %d: %d is taken %d times, not in proportion to its weight", weights, many, k, count)
		}
	}
}

func TestSharesAreCounts(t *testing.T) {
	each(func(weights []int) {
		for many := 1; many <= 6; many++ {
			checkShares(t, weights, many)
		}
	})
	for i, n := range []int{5, 17, 100, 400} {
		for _, many := range []int{1, 13, 400} {
			checkShares(t, weighttest.Scattered(uint64(i), n, 5), many)
		}
	}
}

// TestArguments: no argument is changed, its spare capacity is neither read nor changed, and the results share no memory.
func TestArguments(t *testing.T) {
	for _, weights := range [][]int{nil, {0}, {5}, {1, 4, 1}, {3, 0, 3, 0, 4}, {2, -1}, weighttest.Same(1, 400), weighttest.Same(1, 401), weighttest.Same(0, 400)} {
		plain := slices.Clip(slices.Clone(weights))
		all := slices.Concat(weights, []int{1, -1, 7})
		given := all[:len(weights)]
		for _, many := range []int{0, 1, 2, 7, 400, 401} {
			for number := -1; number < 9; number++ {
				checkSpare(t, plain, given, many, number)
			}
		}
		if !slices.Equal(all, slices.Concat(weights, []int{1, -1, 7})) {
			t.Errorf("%v: changed", weights)
		}
	}
}

// checkSpare compares the results for given, which has spare capacity, with those for plain, which has none, and reports memory that they share.
func checkSpare(t *testing.T, plain, given []int, many, number int) {
	t.Helper()
	wantSum, wantErrno := pps.Sum(plain, many)
	if sum, errno := pps.Sum(given, many); sum != wantSum || errno != wantErrno {
		t.Errorf("%v, many %d: with spare capacity the sum is %d, error %d", plain, many, sum, errno)
	}
	wantShare, wantErrno := pps.Share(plain, many, number)
	if share, errno := pps.Share(given, many, number); share != wantShare || errno != wantErrno {
		t.Errorf("%v, many %d, k %d: with spare capacity the share is %d, error %d", plain, many, number, share, errno)
	}
	want, wantErrno := pps.Take(plain, many, number)
	one, errno := pps.Take(given, many, number)
	two, _ := pps.Take(given, many, number)
	if !slices.Equal(one, want) || errno != wantErrno {
		t.Errorf("%v, many %d, start %d: with spare capacity got %v, error %d", plain, many, number, one, errno)
	}
	one = one[:cap(one)]
	for i := range one {
		one[i] = -99
	}
	if !slices.Equal(two, want) {
		t.Errorf("%v, many %d, start %d: two results share memory", plain, many, number)
	}
}
