package alias_test

import (
	"fmt"
	"math"
	"slices"
	"testing"

	"lotdrawer/alias"
	"lotdrawer/api"
	"lotdrawer/pooltest"
	"lotdrawer/weighttest"
)

const maxWeight = 1 << 20

// each calls f with every list of up to 4 weights below 7, and of 5 and 6 weights below 4, that has a table.
func each(f func(weights []int)) {
	for n, limit := range []int{0, 7, 7, 7, 7, 4, 4} {
		pooltest.Choices(weighttest.Same(limit, n), func(weights []int) {
			if n > 0 && slices.Max(weights) > 0 {
				f(weights)
			}
		})
	}
}

// model builds the table step by step as the document words it.
func model(weights []int) []api.Alias {
	n, sum := len(weights), 0
	for _, weight := range weights {
		sum += weight
	}
	amounts, open := make([]int, n), make([]bool, n)
	for i, weight := range weights {
		amounts[i], open[i] = weight*n, true
	}
	l := make([]api.Alias, n)
	for {
		low, high := n, n
		for i := n - 1; i >= 0; i-- {
			if open[i] && amounts[i] < sum {
				low = i
			}
			if open[i] && amounts[i] > sum {
				high = i
			}
		}
		if low == n || high == n {
			break
		}
		l[low] = api.Alias{Level: amounts[low], To: high}
		open[low] = false
		amounts[high] -= sum - amounts[low]
	}
	for i := range l {
		if open[i] {
			l[i] = api.Alias{Level: sum, To: i}
		}
	}
	return l
}

func TestSum(t *testing.T) {
	for _, c := range []struct {
		what    string
		weights []int
		want    int
		errno   api.Errno
	}{
		{"one weight", []int{5}, 5, api.OK},
		{"two weights", []int{1, 3}, 4, api.OK},
		{"the first 0", []int{0, 3}, 3, api.OK},
		{"the last 0", []int{3, 0}, 3, api.OK},
		{"the least sum", []int{0, 1, 0}, 1, api.OK},
		{"the largest weight", []int{maxWeight}, maxWeight, api.OK},
		{"the largest weight among others", []int{1, maxWeight, 2}, maxWeight + 3, api.OK},
		{"400 weights", pooltest.Span(0, 400), 79800, api.OK},
		{"the largest sum", weighttest.Same(maxWeight, 400), 400 * maxWeight, api.OK},
		{"only the last of 400", append(weighttest.Same(0, 399), 1), 1, api.OK},
		{"no weights", nil, 0, api.ErrRange},
		{"no weights, not nil", []int{}, 0, api.ErrRange},
		{"too many", weighttest.Same(1, 401), 0, api.ErrRange},
		{"too many by far", weighttest.Same(1, 1000), 0, api.ErrRange},
		{"below 0", []int{-1}, 0, api.ErrRange},
		{"the first below 0", []int{-1, 2, 3}, 0, api.ErrRange},
		{"the last below 0", []int{2, 3, -1}, 0, api.ErrRange},
		{"the least", []int{1, math.MinInt, 1}, 0, api.ErrRange},
		{"too large", []int{maxWeight + 1}, 0, api.ErrRange},
		{"the first too large", []int{maxWeight + 1, 0, 0}, 0, api.ErrRange},
		{"the last too large", []int{0, 0, maxWeight + 1}, 0, api.ErrRange},
		{"the largest", []int{1, math.MaxInt, 1}, 0, api.ErrRange},
		{"a sum that would overflow", []int{math.MaxInt, math.MaxInt, 3}, 0, api.ErrRange},
		{"the last of 400 too large", append(weighttest.Same(0, 399), maxWeight+1), 0, api.ErrRange},
		{"one weight of 0", []int{0}, 0, api.ErrNone},
		{"weights of 0", []int{0, 0, 0}, 0, api.ErrNone},
		{"400 weights of 0", weighttest.Same(0, 400), 0, api.ErrNone},
		{"ErrRange of too many before ErrNone", weighttest.Same(0, 401), 0, api.ErrRange},
		{"ErrRange of a weight before ErrNone", []int{-1, 1}, 0, api.ErrRange},
		{"ErrRange of the last weight before ErrNone", []int{0, 0, -1}, 0, api.ErrRange},
	} {
		if got, errno := alias.Sum(c.weights); got != c.want || errno != c.errno {
			t.Errorf("%s: got %d and error %d, want %d and error %d", c.what, got, errno, c.want, c.errno)
		}
		if c.errno == api.OK {
			continue
		}
		if l, errno := alias.Make(c.weights); len(l) != 0 || errno != c.errno {
			t.Errorf("table, %s: got %v and error %d, want error %d", c.what, l, errno, c.errno)
		}
	}
}

func TestMake(t *testing.T) {
	for _, c := range []struct {
		what    string
		weights []int
		want    []api.Alias
	}{
		{"example", []int{1, 3}, []api.Alias{{Level: 2, To: 1}, {Level: 4, To: 1}}},
		{"example backwards", []int{3, 1}, []api.Alias{{Level: 4, To: 0}, {Level: 2, To: 0}}},
		{"one weight", []int{5}, []api.Alias{{Level: 5, To: 0}}},
		{"the largest weight", []int{maxWeight}, []api.Alias{{Level: maxWeight, To: 0}}},
		{"equal", []int{2, 2, 2}, []api.Alias{{Level: 6, To: 0}, {Level: 6, To: 1}, {Level: 6, To: 2}}},
		{"the first 0", []int{0, 3}, []api.Alias{{Level: 0, To: 1}, {Level: 3, To: 1}}},
		{"the last 0", []int{3, 0}, []api.Alias{{Level: 3, To: 0}, {Level: 0, To: 0}}},
		{"all but one 0", []int{0, 4, 0}, []api.Alias{{Level: 0, To: 1}, {Level: 4, To: 1}, {Level: 0, To: 1}}},
		{"the average stays open", []int{2, 1, 3}, []api.Alias{{Level: 6, To: 0}, {Level: 3, To: 2}, {Level: 6, To: 2}}},
		{"the first high one first", []int{0, 2, 2}, []api.Alias{{Level: 0, To: 1}, {Level: 2, To: 2}, {Level: 4, To: 2}}},
		{"the first low one first", []int{1, 0, 4, 5}, []api.Alias{{Level: 4, To: 2}, {Level: 0, To: 3}, {Level: 10, To: 2}, {Level: 10, To: 3}}},
		{"a high one that becomes low", []int{0, 1, 5, 6}, []api.Alias{{Level: 0, To: 2}, {Level: 4, To: 3}, {Level: 8, To: 3}, {Level: 12, To: 3}}},
		{"a new low one comes first", []int{3, 0, 3, 0, 4},
			[]api.Alias{{Level: 5, To: 2}, {Level: 0, To: 0}, {Level: 10, To: 2}, {Level: 0, To: 4}, {Level: 10, To: 4}}},
		{"a high one stays high", []int{4, 1, 0, 4}, []api.Alias{{Level: 2, To: 3}, {Level: 4, To: 0}, {Level: 0, To: 0}, {Level: 9, To: 3}}},
	} {
		got, errno := alias.Make(c.weights)
		if !slices.Equal(got, c.want) || errno != api.OK {
			t.Errorf("%s: got %v and error %d, want %v", c.what, got, errno, c.want)
		}
	}
}

// checkModel compares the table for weights with the one that the document describes.
func checkModel(t *testing.T, weights []int) {
	t.Helper()
	got, errno := alias.Make(weights)
	if want := model(weights); !slices.Equal(got, want) || errno != api.OK {
		t.Errorf("%v: got %v and error %d, want %v", weights, got, errno, want)
	}
}

func TestMakeIsAsDescribed(t *testing.T) {
	each(func(weights []int) { checkModel(t, weights) })
	for _, weights := range weighttest.Many(maxWeight) {
		checkModel(t, weights)
	}
}

func TestDraw(t *testing.T) {
	l := []api.Alias{{Level: 2, To: 1}, {Level: 4, To: 1}}
	odd := []api.Alias{{Level: -5, To: -7}, {Level: math.MaxInt, To: 99}, {Level: math.MinInt, To: math.MaxInt}, {}}
	for _, c := range []struct {
		what         string
		l            []api.Alias
		place, level int
		want         int
		errno        api.Errno
	}{
		{"least level", l, 0, 0, 0, api.OK},
		{"below the level", l, 0, 1, 0, api.OK},
		{"at the level", l, 0, 2, 1, api.OK},
		{"above the level", l, 0, 3, 1, api.OK},
		{"above the sum", l, 0, 1000, 1, api.OK},
		{"largest level", l, 0, math.MaxInt, 1, api.OK},
		{"level below 0", l, 0, -1, 0, api.OK},
		{"smallest level", l, 0, math.MinInt, 0, api.OK},
		{"last place", l, 1, 3, 1, api.OK},
		{"last place, at the level", l, 1, 4, 1, api.OK},
		{"one place", l[:1], 0, 1, 0, api.OK},
		{"a To that is no place", l[:1], 0, 2, 1, api.OK},
		{"below a level below 0", odd, 0, -6, 0, api.OK},
		{"at a level below 0, To below 0", odd, 0, -5, -7, api.OK},
		{"below the largest level", odd, 1, math.MaxInt - 1, 1, api.OK},
		{"at the largest level", odd, 1, math.MaxInt, 99, api.OK},
		{"at the smallest level", odd, 2, math.MinInt, math.MaxInt, api.OK},
		{"at a level of 0", odd, 3, 0, 0, api.OK},
		{"below a level of 0", odd, 3, -1, 3, api.OK},
		{"more places than there may be weights", make([]api.Alias, 1000), 999, -1, 999, api.OK},
		{"place above", l, 2, 0, 0, api.ErrNone},
		{"place above, high level", l, 2, 9, 0, api.ErrNone},
		{"place below", l, -1, 0, 0, api.ErrNone},
		{"largest place", l, math.MaxInt, 0, 0, api.ErrNone},
		{"smallest place", l, math.MinInt, 0, 0, api.ErrNone},
		{"place of what is only spare capacity", l[:1], 1, 3, 0, api.ErrNone},
		{"no places", nil, 0, 0, 0, api.ErrNone},
		{"no places, not nil", []api.Alias{}, 0, 0, 0, api.ErrNone},
		{"no places, place below", nil, -1, 0, 0, api.ErrNone},
	} {
		if got, errno := alias.Draw(c.l, c.place, c.level); got != c.want || errno != c.errno {
			t.Errorf("%s: got %d and error %d, want %d and error %d", c.what, got, errno, c.want, c.errno)
		}
	}
}

// TestProportional counts over all places and levels: each index is drawn in proportion to its weight.
func TestProportional(t *testing.T) {
	each(func(weights []int) {
		sum, errno := alias.Sum(weights)
		l, makeErrno := alias.Make(weights)
		if errno != api.OK || makeErrno != api.OK {
			t.Fatalf("%v: errors %d and %d", weights, errno, makeErrno)
		}
		counts := make([]int, len(weights))
		for place := range l {
			for level := range sum {
				index, errno := alias.Draw(l, place, level)
				if errno != api.OK || index < 0 || index >= len(counts) {
					t.Fatalf("%v: place %d, level %d: got %d and error %d", weights, place, level, index, errno)
				}
				counts[index]++
			}
		}
		checkCounts(t, weights, counts)
	})
}

// TestManyProportional is TestProportional for tables with too many levels to go through them one by one.
func TestManyProportional(t *testing.T) {
	for _, weights := range weighttest.Many(maxWeight) {
		sum, errno := alias.Sum(weights)
		l, makeErrno := alias.Make(weights)
		if errno != api.OK || makeErrno != api.OK || len(l) != len(weights) {
			t.Fatalf("%v: got %d places, errors %d and %d", weights, len(l), errno, makeErrno)
		}
		counts := make([]int, len(weights))
		for place, entry := range l {
			if entry.Level < 0 || entry.Level > sum || entry.To < 0 || entry.To >= len(l) {
				t.Fatalf("%v: got %v at place %d", weights, entry, place)
			}
			counts[place] += entry.Level
			counts[entry.To] += sum - entry.Level
		}
		checkCounts(t, weights, counts)
	}
}

// checkCounts reports counts that aren't the weights times their number.
func checkCounts(t *testing.T, weights, counts []int) {
	t.Helper()
	for i, weight := range weights {
		if counts[i] != weight*len(weights) {
			t.Errorf("%v: index %d is drawn %d times", weights, i, counts[i])
		}
	}
}

// TestArguments: no argument is changed, its spare capacity is neither read nor changed, and the results share no memory.
func TestArguments(t *testing.T) {
	for _, weights := range [][]int{nil, {0}, {5}, {1, 3}, {3, 0, 3, 0, 4}, {2, -1}, weighttest.Same(1, 400), weighttest.Same(1, 401), weighttest.Same(0, 400)} {
		wantSum, wantErrno := alias.Sum(slices.Clip(slices.Clone(weights)))
		want, _ := alias.Make(slices.Clip(slices.Clone(weights)))
		all := slices.Concat(weights, []int{1, -1, 7})
		given := all[:len(weights)]
		if sum, errno := alias.Sum(given); sum != wantSum || errno != wantErrno {
			t.Errorf("%v: with spare capacity the sum is %d, error %d", weights, sum, errno)
		}
		one, errno := alias.Make(given)
		two, _ := alias.Make(given)
		if !slices.Equal(one, want) || errno != wantErrno {
			t.Errorf("%v: with spare capacity the table is %v, error %d", weights, one, errno)
		}
		for i := range one[:cap(one)] {
			one[:cap(one)][i] = api.Alias{Level: -99, To: -99}
		}
		if !slices.Equal(two, want) {
			t.Errorf("%v: two tables share memory", weights)
		}
		if !slices.Equal(all, slices.Concat(weights, []int{1, -1, 7})) {
			t.Errorf("%v: changed", weights)
		}
	}
}

// TestDrawLeavesTheTable: drawing changes nothing of the table, nor of its spare capacity.
func TestDrawLeavesTheTable(t *testing.T) {
	all := []api.Alias{{Level: 2, To: 1}, {Level: 4, To: 1}, {Level: 3, To: 0}}
	want := slices.Clone(all)
	text := ""
	for range 2 {
		once := ""
		for place := -1; place <= 3; place++ {
			for level := -1; level <= 5; level++ {
				index, errno := alias.Draw(all[:2], place, level)
				once += fmt.Sprint(index, errno, " ")
			}
		}
		if text != "" && once != text {
			t.Errorf("got %s, and then %s", text, once)
		}
		text = once
	}
	if !slices.Equal(all, want) {
		t.Errorf("changed to %v", all)
	}
}
