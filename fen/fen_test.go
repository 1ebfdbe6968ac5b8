package fen_test

import (
	"fmt"
	"math"
	"slices"
	"testing"

	"lotdrawer/api"
	"lotdrawer/fen"
	"lotdrawer/pooltest"
	"lotdrawer/weighttest"
)

const maxWeight = 1 << 30

// each calls f with every list of up to 5 weights below 4, and of up to 3 weights below 7.
func each(f func(weights []int)) {
	for n := range 6 {
		pooltest.Choices(weighttest.Same(4, n), f)
	}
	for n := range 4 {
		pooltest.Choices(weighttest.Same(7, n), f)
	}
}

// many returns long lists of weights, and those with the largest weights.
func many() [][]int {
	return append(weighttest.Many(maxWeight), weighttest.Same(0, 400))
}

func TestSums(t *testing.T) {
	for _, c := range []struct {
		what    string
		weights []int
		want    []int
	}{
		{"example", []int{2, 0, 3}, []int{0, 2, 2, 5}},
		{"no weights", nil, []int{0}},
		{"no weights, not nil", []int{}, []int{0}},
		{"one weight", []int{7}, []int{0, 7}},
		{"one weight of 0", []int{0}, []int{0, 0}},
		{"the largest weight", []int{maxWeight}, []int{0, maxWeight}},
		{"the largest weights", []int{maxWeight, maxWeight, maxWeight}, []int{0, maxWeight, 2 * maxWeight, 3 * maxWeight}},
		{"the first 0", []int{0, 3, 1}, []int{0, 0, 3, 4}},
		{"the last 0", []int{3, 1, 0}, []int{0, 3, 4, 4}},
		{"only zeros", []int{0, 0, 0}, []int{0, 0, 0, 0}},
		{"falling", []int{5, 4, 3, 2, 1}, []int{0, 5, 9, 12, 14, 15}},
		{"the most weights", weighttest.Same(1, 400), pooltest.Span(0, 401)},
	} {
		got, errno := fen.Sums(c.weights)
		if !slices.Equal(got, c.want) || errno != api.OK {
			t.Errorf("%s: got %v and error %d, want %v", c.what, got, errno, c.want)
		}
	}
	for _, c := range weighttest.Invalid(maxWeight) {
		if got, errno := fen.Sums(c.Weights); len(got) != 0 || errno != api.ErrRange {
			t.Errorf("%s: got %v and error %d, want error %d", c.What, got, errno, api.ErrRange)
		}
	}
}

// checkSums compares each prefix sum with the sum of the weights it is of.
func checkSums(t *testing.T, weights []int) {
	t.Helper()
	sums, errno := fen.Sums(weights)
	if len(sums) != len(weights)+1 || errno != api.OK {
		t.Fatalf("%v: got %v and error %d", weights, sums, errno)
	}
	for k, sum := range sums {
		if want := weighttest.Total(weights[:k]); sum != want {
			t.Errorf("%v: the sum of the first %d is %d, want %d", weights, k, sum, want)
		}
	}
}

func TestSumsAreAsDescribed(t *testing.T) {
	each(func(weights []int) { checkSums(t, weights) })
	for _, weights := range many() {
		checkSums(t, weights)
	}
}

func TestPick(t *testing.T) {
	weights := []int{2, 0, 3}
	for _, c := range []struct {
		what    string
		weights []int
		n       int
		want    int
		errno   api.Errno
	}{
		{"example", weights, 2, 2, api.OK},
		{"the least number", weights, 0, 0, api.OK},
		{"the last of the first index", weights, 1, 0, api.OK},
		{"within the last index", weights, 3, 2, api.OK},
		{"the last number", weights, 4, 2, api.OK},
		{"one weight", []int{1}, 0, 0, api.OK},
		{"zeros first", []int{0, 0, 1}, 0, 2, api.OK},
		{"zeros last", []int{1, 0, 0}, 0, 0, api.OK},
		{"the largest weight, its last number", []int{maxWeight, 1}, maxWeight - 1, 0, api.OK},
		{"after the largest weight", []int{maxWeight, 1}, maxWeight, 1, api.OK},
		{"the most weights", weighttest.Same(1, 400), 399, 399, api.OK},
		{"the largest sum", weighttest.Same(maxWeight, 400), 400*maxWeight - 1, 399, api.OK},
		{"only the last of 400", append(weighttest.Same(0, 399), 1), 0, 399, api.OK},
		{"at the sum", weights, 5, 0, api.ErrNone},
		{"above the sum", weights, 6, 0, api.ErrNone},
		{"the largest number", weights, math.MaxInt, 0, api.ErrNone},
		{"below 0", weights, -1, 0, api.ErrNone},
		{"the smallest number", weights, math.MinInt, 0, api.ErrNone},
		{"at the largest sum", weighttest.Same(maxWeight, 400), 400 * maxWeight, 0, api.ErrNone},
		{"no weights", nil, 0, 0, api.ErrNone},
		{"no weights, not nil", []int{}, 0, 0, api.ErrNone},
		{"no weights, below 0", nil, -1, 0, api.ErrNone},
		{"only zeros", []int{0, 0, 0}, 0, 0, api.ErrNone},
		{"only zeros, below 0", []int{0, 0, 0}, -1, 0, api.ErrNone},
		{"of what is only spare capacity", weights[:2], 2, 0, api.ErrNone},
	} {
		if got, errno := fen.Pick(c.weights, c.n); got != c.want || errno != c.errno {
			t.Errorf("%s: got %d and error %d, want %d and error %d", c.what, got, errno, c.want, c.errno)
		}
	}
	for _, c := range weighttest.Invalid(maxWeight) {
		for _, n := range []int{0, 1, 2, -1, math.MinInt, 401, math.MaxInt} {
			if got, errno := fen.Pick(c.Weights, n); got != 0 || errno != api.ErrRange {
				t.Errorf("%s, %d: got %d and error %d, want error %d", c.What, n, got, errno, api.ErrRange)
			}
		}
	}
}

// modelPick picks as the document words it.
func modelPick(weights []int, n int) (int, api.Errno) {
	if n < 0 || n >= weighttest.Total(weights) {
		return 0, api.ErrNone
	}
	for i := range weights {
		if weighttest.Total(weights[:i+1]) > n {
			return i, api.OK
		}
	}
	panic("the sum of all weights is greater than n")
}

// checkPick compares one pick with what the document says.
func checkPick(t *testing.T, weights []int, n int) {
	t.Helper()
	want, wantErrno := modelPick(weights, n)
	if got, errno := fen.Pick(weights, n); got != want || errno != wantErrno {
		t.Errorf("%v, %d: got %d and error %d, want %d and error %d", weights, n, got, errno, want, wantErrno)
	}
}

func TestPickIsAsDescribed(t *testing.T) {
	each(func(weights []int) {
		for n := -2; n <= weighttest.Total(weights)+2; n++ {
			checkPick(t, weights, n)
		}
	})
	for _, weights := range many() {
		for k := range weights {
			sum := weighttest.Total(weights[:k+1])
			checkPick(t, weights, sum-1)
			checkPick(t, weights, sum)
		}
	}
}

// TestProportional counts over all numbers: each index is picked as often as its weight.
func TestProportional(t *testing.T) {
	each(func(weights []int) {
		counts := make([]int, len(weights))
		for n := range weighttest.Total(weights) {
			index, errno := fen.Pick(weights, n)
			if errno != api.OK || index < 0 || index >= len(counts) {
				t.Fatalf("%v, %d: got %d and error %d", weights, n, index, errno)
			}
			counts[index]++
		}
		if !slices.Equal(counts, weights) {
			t.Errorf("%v: the indices are picked %v times", weights, counts)
		}
	})
}

func TestDraw(t *testing.T) {
	weights := []int{2, 0, 3}
	for _, c := range []struct {
		what          string
		weights, nums []int
		want          []int
		errno         api.Errno
	}{
		{"the last index, then the first", weights, []int{2, 0}, []int{2, 0}, api.OK},
		{"the first index, then the last", weights, []int{0, 0}, []int{0, 2}, api.OK},
		{"the last numbers", weights, []int{4, 1}, []int{2, 0}, api.OK},
		{"one number", weights, []int{1}, []int{0}, api.OK},
		{"no numbers", weights, nil, nil, api.OK},
		{"no numbers, not nil", weights, []int{}, nil, api.OK},
		{"no numbers and no weights", nil, nil, nil, api.OK},
		{"no numbers, only zeros", []int{0, 0}, nil, nil, api.OK},
		{"the same number again and again", weighttest.Same(1, 4), []int{1, 1, 1, 0}, []int{1, 2, 3, 0}, api.OK},
		{"from the last", weighttest.Same(1, 4), []int{3, 2, 1, 0}, []int{3, 2, 1, 0}, api.OK},
		{"the largest weights", weighttest.Same(maxWeight, 3), []int{maxWeight, maxWeight, maxWeight - 1}, []int{1, 2, 0}, api.OK},
		{"all of the most weights", weighttest.Same(maxWeight, 400), weighttest.Same(0, 400), pooltest.Span(0, 400), api.OK},
		{"at the sum", weights, []int{5}, nil, api.ErrNone},
		{"at the sum of what is left", weights, []int{2, 2}, nil, api.ErrNone},
		{"below the sum of all, but not of what is left", weights, []int{0, 3}, nil, api.ErrNone},
		{"more than there are", weights, []int{0, 0, 0}, nil, api.ErrNone},
		{"more than there are, the last below 0", weights, []int{0, 0, -1}, nil, api.ErrNone},
		{"a number for each index, but one is without weight", weights, []int{2, 1, 0}, nil, api.ErrNone},
		{"the first below 0", weights, []int{-1, 0}, nil, api.ErrNone},
		{"the last below 0", weights, []int{0, -1}, nil, api.ErrNone},
		{"the smallest number", weights, []int{0, math.MinInt}, nil, api.ErrNone},
		{"the largest number", weights, []int{0, math.MaxInt}, nil, api.ErrNone},
		{"the first too large", weights, []int{5, 0, 0}, nil, api.ErrNone},
		{"no weights", nil, []int{0}, nil, api.ErrNone},
		{"only zeros", []int{0, 0}, []int{0}, nil, api.ErrNone},
		{"one more than the most weights", weighttest.Same(1, 400), weighttest.Same(0, 401), nil, api.ErrNone},
		{"many more than the most weights", weighttest.Same(1, 400), weighttest.Same(0, 100000), nil, api.ErrNone},
	} {
		got, errno := fen.Draw(c.weights, c.nums)
		if !slices.Equal(got, c.want) || errno != c.errno {
			t.Errorf("%s: got %v and error %d, want %v and error %d", c.what, got, errno, c.want, c.errno)
		}
	}
	for _, c := range weighttest.Invalid(maxWeight) {
		for _, nums := range [][]int{nil, {}, {0}, {0, 0}, {-1}, {math.MinInt}, {math.MaxInt}, {0, -1}, weighttest.Same(0, 402)} {
			if got, errno := fen.Draw(c.Weights, nums); len(got) != 0 || errno != api.ErrRange {
				t.Errorf("%s, %v: got %v and error %d, want error %d", c.What, nums, got, errno, api.ErrRange)
			}
		}
	}
}

// modelDraw draws as the document words it.
func modelDraw(weights, nums []int) ([]int, api.Errno) {
	var drawn []int
	for _, n := range nums {
		left := make([]int, len(weights))
		for i, weight := range weights {
			if !slices.Contains(drawn, i) {
				left[i] = weight
			}
		}
		index, errno := modelPick(left, n)
		if errno != api.OK {
			return nil, errno
		}
		drawn = append(drawn, index)
	}
	return drawn, api.OK
}

// checkDraw compares one list of numbers with what the document says.
func checkDraw(t *testing.T, weights, nums []int) {
	t.Helper()
	want, wantErrno := modelDraw(weights, nums)
	if got, errno := fen.Draw(weights, nums); !slices.Equal(got, want) || errno != wantErrno {
		t.Errorf("%v, %v: got %v and error %d, want %v and error %d", weights, nums, got, errno, want, wantErrno)
	}
}

// TestDrawIsAsDescribed draws with every list of up to 3 numbers for up to 3 weights below 4, those that are too small or too large included.
func TestDrawIsAsDescribed(t *testing.T) {
	for n := range 4 {
		pooltest.Choices(weighttest.Same(4, n), func(weights []int) {
			for length := range 4 {
				pooltest.Choices(weighttest.Same(weighttest.Total(weights)+2, length), func(draws []int) {
					nums := make([]int, length)
					for i, draw := range draws {
						nums[i] = draw - 1
					}
					checkDraw(t, weights, nums)
				})
			}
		})
	}
}

// TestDrawOfMany draws from long lists of weights until nothing is left, and once more.
func TestDrawOfMany(t *testing.T) {
	for i, weights := range many() {
		left := slices.Clone(weights)
		var nums []int
		for seed := uint64(i); weighttest.Total(left) > 0; seed++ {
			n := weighttest.Scattered(seed, 1, weighttest.Total(left))[0]
			index, _ := modelPick(left, n)
			left[index] = 0
			nums = append(nums, n)
		}
		got, errno := fen.Draw(weights, nums)
		want, _ := modelDraw(weights, nums)
		if !slices.Equal(got, want) || errno != api.OK {
			t.Errorf("%v, %v: got %v and error %d, want %v", weights, nums, got, errno, want)
		}
		if got, errno := fen.Draw(weights, append(nums, 0)); len(got) != 0 || errno != api.ErrNone {
			t.Errorf("%v: when nothing is left, got %v and error %d, want error %d", weights, got, errno, api.ErrNone)
		}
	}
}

// TestDrawsAreProportional counts over all numbers: each order of indices is drawn as often as the product of their weights, none with an index twice.
func TestDrawsAreProportional(t *testing.T) {
	for _, weights := range [][]int{{1}, {5}, {2, 0, 3}, {1, 2, 3}, {0, 4, 1}, {2, 2, 2}, {1, 1, 1, 1}, {3, 1, 0, 2}, {1, 2, 1, 3}} {
		for length := range len(weights) + 1 {
			counts := map[string]int{}
			var count func(nums []int)
			count = func(nums []int) {
				drawn, errno := fen.Draw(weights, nums)
				if errno != api.OK || len(drawn) != len(nums) {
					t.Fatalf("%v, %v: got %v and error %d", weights, nums, drawn, errno)
				}
				if len(nums) == length {
					counts[fmt.Sprint(drawn)]++
					return
				}
				for n := range weighttest.Total(without(weights, drawn)) {
					count(append(slices.Clip(nums), n))
				}
			}
			count(nil)
			checkOrders(t, weights, length, counts)
		}
	}
}

// without returns the weights with those of drawn replaced by 0.
func without(weights, drawn []int) []int {
	left := slices.Clone(weights)
	for _, index := range drawn {
		left[index] = 0
	}
	return left
}

// checkOrders reports orders of so many indices that aren't drawn as often as the product of their weights.
func checkOrders(t *testing.T, weights []int, length int, counts map[string]int) {
	t.Helper()
	orders := 0
	pooltest.Choices(weighttest.Same(len(weights), length), func(order []int) {
		product := 1
		for i, index := range order {
			product *= weights[index]
			if slices.Contains(order[:i], index) {
				product = 0
			}
		}
		if product > 0 {
			orders++
		}
		if got := counts[fmt.Sprint(order)]; got != product {
			t.Errorf("%v: %v is drawn %d times, want %d", weights, order, got, product)
		}
	})
	if len(counts) != orders {
		t.Errorf("%v: %d orders of %d are drawn, want %d: %v", weights, len(counts), length, orders, counts)
	}
}

// TestArguments: no argument is changed, its spare capacity is neither read nor changed, and the results share no memory.
func TestArguments(t *testing.T) {
	for _, c := range []struct{ weights, nums []int }{
		{nil, nil},
		{nil, []int{0}},
		{[]int{7}, []int{6}},
		{[]int{2, 0, 3}, nil},
		{[]int{2, 0, 3}, []int{2, 0}},
		{[]int{2, 0, 3}, []int{0, 0}},
		{[]int{0, 1, 2}, []int{0, 1}},
		{[]int{2, 0, 3}, []int{0, 4}},
		{[]int{2, 0, 3}, []int{0, -1}},
		{[]int{2, -1, 3}, []int{0, 0}},
		{weighttest.Same(1, 400), weighttest.Same(0, 400)},
		{weighttest.Same(1, 400), weighttest.Same(0, 401)},
		{weighttest.Same(1, 401), weighttest.Same(0, 3)},
	} {
		allWeights := slices.Concat(c.weights, []int{1, -1, 7})
		allNums := slices.Concat(c.nums, []int{1, -1, 7})
		weights, nums := allWeights[:len(c.weights)], allNums[:len(c.nums)]
		checkResult(t, c.weights, fen.Sums, weights)
		checkResult(t, c.weights, func(weights []int) ([]int, api.Errno) { return fen.Draw(weights, nums) }, weights)
		checkResult(t, c.nums, func(nums []int) ([]int, api.Errno) { return fen.Draw(weights, nums) }, nums)
		for n := -1; n < 6; n++ {
			want, wantErrno := fen.Pick(slices.Clip(slices.Clone(c.weights)), n)
			if got, errno := fen.Pick(weights, n); got != want || errno != wantErrno {
				t.Errorf("%v, %d: with spare capacity got %d and error %d, want %d and error %d", c.weights, n, got, errno, want, wantErrno)
			}
		}
		if !slices.Equal(allWeights, slices.Concat(c.weights, []int{1, -1, 7})) {
			t.Errorf("%v: the weights have changed", c.weights)
		}
		if !slices.Equal(allNums, slices.Concat(c.nums, []int{1, -1, 7})) {
			t.Errorf("%v: the numbers have changed", c.nums)
		}
	}
}

// checkResult compares the results of f for given, which has spare capacity, with that for a copy without, and reports memory that they share.
func checkResult(t *testing.T, plain []int, f func(l []int) ([]int, api.Errno), given []int) {
	t.Helper()
	want, wantErrno := f(slices.Clip(slices.Clone(plain)))
	one, errno := f(given)
	two, _ := f(given)
	if !slices.Equal(one, want) || errno != wantErrno {
		t.Errorf("%v: with spare capacity got %v and error %d, want %v and error %d", plain, one, errno, want, wantErrno)
	}
	one = one[:cap(one)]
	for i := range one {
		one[i] = -99
	}
	if !slices.Equal(two, want) {
		t.Errorf("%v: two results share memory", plain)
	}
}
