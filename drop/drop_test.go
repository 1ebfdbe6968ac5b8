package drop_test

import (
	"fmt"
	"math"
	"slices"
	"testing"

	"lotdrawer/api"
	"lotdrawer/drop"
	"lotdrawer/pooltest"
	"lotdrawer/weighttest"
)

const maxWeight = 1 << 20

// outside is numbers that keep may not be.
var outside = []int{0, -1, math.MinInt, 401, 1000, math.MaxInt}

// lifted returns the weights with 1 in place of each 0, which no element may weigh here.
func lifted(weights []int) []int {
	l := slices.Clone(weights)
	for i, weight := range l {
		if weight == 0 {
			l[i] = 1
		}
	}
	return l
}

// each calls f with every list of up to 5 weights of a few sizes.
func each(f func(weights []int)) {
	sizes := []int{1, 2, 3, 5, 12}
	for n := range 6 {
		pooltest.Choices(weighttest.Same(len(sizes), n), func(draws []int) {
			weights := make([]int, n)
			for i, draw := range draws {
				weights[i] = sizes[draw]
			}
			f(weights)
		})
	}
}

// many returns long lists of weights, and those with the largest weights.
func many() [][]int {
	doubling := make([]int, 21)
	for i := range doubling {
		doubling[i] = 1 << i
	}
	l := [][]int{doubling, slices.Concat(doubling, weighttest.Same(1, 379)), slices.Concat(weighttest.Same(maxWeight, 200), weighttest.Same(1, 200))}
	for _, weights := range weighttest.Many(maxWeight) {
		l = append(l, lifted(weights))
	}
	return l
}

// keeps returns numbers of elements to keep of n, too many for a threshold included.
func keeps(n int) []int {
	var l []int
	for _, keep := range []int{1, 2, 3, n / 2, n - 2, n - 1, n, n + 1, api.MaxOps} {
		if keep >= 1 && keep <= api.MaxOps {
			l = append(l, keep)
		}
	}
	return l
}

// invalid returns weights that are wrong for every keep.
func invalid() []weighttest.Case {
	l := []weighttest.Case{
		{What: "a weight of 0", Weights: []int{0}},
		{What: "the first 0", Weights: []int{0, 2, 3}},
		{What: "the last 0", Weights: []int{2, 3, 0}},
		{What: "only zeros", Weights: []int{0, 0, 0}},
		{What: "the last of 400 is 0", Weights: append(weighttest.Same(1, 399), 0)},
	}
	for _, c := range weighttest.Invalid(maxWeight) {
		l = append(l, weighttest.Case{What: c.What, Weights: lifted(c.Weights)})
	}
	return l
}

// refuse calls f with weights and a keep that are ErrRange together.
func refuse(f func(what string, weights []int, keep int)) {
	for _, c := range invalid() {
		for _, keep := range append([]int{1, 2, 400}, outside...) {
			f(c.What, c.Weights, keep)
		}
	}
	for _, weights := range [][]int{nil, {}, {1}, {1, 9, 2, 3}, weighttest.Same(1, 400)} {
		for _, keep := range outside {
			f("keep out of range", weights, keep)
		}
	}
}

func TestWrong(t *testing.T) {
	for _, c := range []struct {
		what    string
		weights []int
		keep    int
	}{
		{"no weights", nil, 1},
		{"no weights, not nil", []int{}, 400},
		{"the least weight and keep", []int{1}, 1},
		{"the largest weight", []int{maxWeight}, 1},
		{"the largest weight among others", []int{1, maxWeight, 2}, 2},
		{"more than there are weights", []int{1, 9, 2, 3}, 5},
		{"the largest keep", []int{1, 9, 2, 3}, 400},
		{"400 weights", weighttest.Same(1, 400), 1},
		{"400 of the largest weight, all kept", weighttest.Same(maxWeight, 400), 400},
	} {
		if errno := drop.Wrong(c.weights, c.keep); errno != api.OK {
			t.Errorf("%s: got error %d", c.what, errno)
		}
	}
	refuse(func(what string, weights []int, keep int) {
		if errno := drop.Wrong(weights, keep); errno != api.ErrRange {
			t.Errorf("%s, keep %d: got error %d, want %d", what, keep, errno, api.ErrRange)
		}
	})
}

func TestLevel(t *testing.T) {
	for _, c := range []struct {
		what    string
		weights []int
		keep    int
		want    api.Frac
	}{
		{"example", []int{1, 9, 2, 3}, 2, api.Frac{Num: 6, Den: 1}},
		{"example, increasing", []int{1, 2, 3, 9}, 2, api.Frac{Num: 6, Den: 1}},
		{"example, decreasing", []int{9, 3, 2, 1}, 2, api.Frac{Num: 6, Den: 1}},
		{"one kept: none removed", []int{1, 9, 2, 3}, 1, api.Frac{Num: 15, Den: 1}},
		{"one of two kept", []int{1, maxWeight}, 1, api.Frac{Num: maxWeight + 1, Den: 1}},
		{"one weight less to keep, and not reduced", []int{1, 9, 2, 3}, 3, api.Frac{Num: 6, Den: 2}},
		{"just as many", []int{1, 9, 2, 3}, 4, api.Frac{}},
		{"fewer", []int{1, 9, 2, 3}, 5, api.Frac{}},
		{"fewer by far", []int{1, 9, 2, 3}, 400, api.Frac{}},
		{"one weight", []int{1}, 1, api.Frac{}},
		{"no weights", nil, 1, api.Frac{}},
		{"no weights, not nil", []int{}, 400, api.Frac{}},
		{"equal", []int{2, 2, 2}, 2, api.Frac{Num: 6, Den: 2}},
		{"the largest just at the threshold", []int{1, 1, 2}, 2, api.Frac{Num: 4, Den: 2}},
		{"the largest just above the threshold", []int{1, 1, 3}, 2, api.Frac{Num: 2, Den: 1}},
		{"two of the largest", []int{5, 1, 5, 1}, 3, api.Frac{Num: 2, Den: 1}},
		{"one removed, not the other", []int{3, 3, 3, 20}, 3, api.Frac{Num: 9, Den: 2}},
		{"all but one of those kept are removed", []int{1, 2, 4, 8, 16}, 4, api.Frac{Num: 3, Den: 1}},
		{"400 weights, none removed", weighttest.Same(maxWeight, 400), 399, api.Frac{Num: 400 * maxWeight, Den: 399}},
		{"400 weights, all kept", weighttest.Same(maxWeight, 400), 400, api.Frac{}},
		{"398 of 400 removed", append(weighttest.Same(maxWeight, 398), 1, 1), 399, api.Frac{Num: 2, Den: 1}},
		{"of the spare capacity nothing", []int{1, 9, 2, 3}[:2], 1, api.Frac{Num: 10, Den: 1}},
	} {
		if got, errno := drop.Level(c.weights, c.keep); got != c.want || errno != api.OK {
			t.Errorf("%s: got %v and error %d, want %v", c.what, got, errno, c.want)
		}
	}
	refuse(func(what string, weights []int, keep int) {
		if got, errno := drop.Level(weights, keep); got != (api.Frac{}) || errno != api.ErrRange {
			t.Errorf("%s, keep %d: got %v and error %d, want error %d", what, keep, got, errno, api.ErrRange)
		}
	})
}

// modelLevel removes elements one by one as the document words it.
func modelLevel(weights []int, keep int) api.Frac {
	if len(weights) <= keep {
		return api.Frac{}
	}
	remaining := slices.Clone(weights)
	for removed := 0; ; removed++ {
		excess, largest := keep-removed, slices.Max(remaining)
		if excess < 2 || largest*excess <= weighttest.Total(remaining) {
			return api.Frac{Num: weighttest.Total(remaining), Den: excess}
		}
		i := slices.Index(remaining, largest)
		remaining = slices.Delete(remaining, i, i+1)
	}
}

// checkLevel compares the threshold with the one that the document describes, and the probabilities to be kept with how many are kept.
func checkLevel(t *testing.T, weights []int, keep int) {
	t.Helper()
	got, errno := drop.Level(weights, keep)
	if want := modelLevel(weights, keep); got != want || errno != api.OK {
		t.Errorf("%v, keep %d: got %v and error %d, want %v", weights, keep, got, errno, want)
	}
	kept := 0
	for _, weight := range weights {
		kept += min(got.Num, weight*got.Den)
	}
	if kept != keep*got.Num {
		t.Errorf("%v, keep %d: with the threshold %v, %d/%d are kept", weights, keep, got, kept, got.Num)
	}
}

func TestLevelIsAsDescribed(t *testing.T) {
	each(func(weights []int) {
		for keep := 1; keep <= len(weights)+1; keep++ {
			checkLevel(t, weights, keep)
		}
	})
	for _, weights := range many() {
		for _, keep := range keeps(len(weights)) {
			checkLevel(t, weights, keep)
		}
	}
}

func TestHeavy(t *testing.T) {
	for _, c := range []struct {
		what    string
		weights []int
		keep    int
		want    []bool
	}{
		{"example", []int{1, 9, 2, 3}, 2, []bool{false, true, false, false}},
		{"one kept: none for sure", []int{1, 9, 2, 3}, 1, []bool{false, false, false, false}},
		{"a weight at the threshold", []int{1, 9, 2, 3}, 3, []bool{false, true, false, true}},
		{"the largest at the threshold", []int{1, 1, 2}, 2, []bool{false, false, true}},
		{"the largest just below the threshold", []int{2, 2, 3}, 2, []bool{false, false, false}},
		{"just as many", []int{1, 9, 2, 3}, 4, []bool{true, true, true, true}},
		{"fewer", []int{1, 9}, 400, []bool{true, true}},
		{"one weight", []int{1}, 1, []bool{true}},
		{"no weights", nil, 1, nil},
		{"no weights, not nil", []int{}, 400, nil},
		{"equal", []int{2, 2, 2}, 2, []bool{false, false, false}},
		{"two of the largest", []int{5, 1, 5, 1}, 3, []bool{true, false, true, false}},
		{"one removed, not the others", []int{3, 3, 3, 20}, 3, []bool{false, false, false, true}},
		{"the largest weights, all kept", weighttest.Same(maxWeight, 400), 400, slices.Repeat([]bool{true}, 400)},
		{"the largest weights, not all kept", weighttest.Same(maxWeight, 400), 399, make([]bool, 400)},
		{"398 of 400", append(weighttest.Same(maxWeight, 398), 1, 1), 399, append(slices.Repeat([]bool{true}, 398), false, false)},
	} {
		if got, errno := drop.Heavy(c.weights, c.keep); !slices.Equal(got, c.want) || errno != api.OK {
			t.Errorf("%s: got %v and error %d, want %v", c.what, got, errno, c.want)
		}
	}
	refuse(func(what string, weights []int, keep int) {
		if got, errno := drop.Heavy(weights, keep); len(got) != 0 || errno != api.ErrRange {
			t.Errorf("%s, keep %d: got %v and error %d, want error %d", what, keep, got, errno, api.ErrRange)
		}
	})
}

// checkHeavy compares each element with the threshold, and those that are always kept with how many are.
func checkHeavy(t *testing.T, weights []int, keep int) {
	t.Helper()
	level := modelLevel(weights, keep)
	heavy, errno := drop.Heavy(weights, keep)
	if len(heavy) != len(weights) || errno != api.OK {
		t.Fatalf("%v, keep %d: got %v and error %d", weights, keep, heavy, errno)
	}
	kept := 0
	for k, weight := range weights {
		if heavy[k] != (level.Den == 0 || weight*level.Den >= level.Num) {
			t.Errorf("%v, keep %d: got %t for index %d", weights, keep, heavy[k], k)
		}
		if heavy[k] {
			kept++
		}
	}
	if kept > keep {
		t.Errorf("%v, keep %d: %d are always kept", weights, keep, kept)
	}
}

func TestHeavyIsAsDescribed(t *testing.T) {
	each(func(weights []int) {
		for keep := 1; keep <= len(weights)+1; keep++ {
			checkHeavy(t, weights, keep)
		}
	})
	for _, weights := range many() {
		for _, keep := range keeps(len(weights)) {
			checkHeavy(t, weights, keep)
		}
	}
}

func TestOne(t *testing.T) {
	weights := []int{1, 9, 2, 3}
	for _, c := range []struct {
		what    string
		weights []int
		draw    int
		want    int
		errno   api.Errno
	}{
		{"the least draw", weights, 0, 0, api.OK},
		{"the last of a segment", weights, 3, 0, api.OK},
		{"the first after an index without a segment", weights, 4, 2, api.OK},
		{"the last draw", weights, 5, 2, api.OK},
		{"the lighter of two", []int{1, 5}, 4, 0, api.OK},
		{"the heavier of two", []int{1, 5}, 5, 1, api.OK},
		{"the first without a segment", []int{9, 1, 1}, 0, 1, api.OK},
		{"the last without a segment", []int{1, 1, 9}, 1, 1, api.OK},
		{"equal, the first", []int{2, 2, 2}, 1, 0, api.OK},
		{"equal, the second", []int{2, 2, 2}, 2, 1, api.OK},
		{"equal, the last", []int{2, 2, 2}, 5, 2, api.OK},
		{"400 of the largest weight", weighttest.Same(maxWeight, 400), 400*maxWeight - 1, 399, api.OK},
		{"400 weights, two of them light", append([]int{1}, append(weighttest.Same(maxWeight, 398), 1)...), 1, 399, api.OK},
		{"after the last segment", weights, 6, 0, api.ErrNone},
		{"at the sum of all weights", weights, 15, 0, api.ErrNone},
		{"the largest draw", weights, math.MaxInt, 0, api.ErrNone},
		{"below 0", weights, -1, 0, api.ErrNone},
		{"the smallest draw", weights, math.MinInt, 0, api.ErrNone},
		{"after the last of two", []int{1, 5}, 6, 0, api.ErrNone},
		{"after the last of 400", weighttest.Same(maxWeight, 400), 400 * maxWeight, 0, api.ErrNone},
		{"a segment of the spare capacity only", weights[:2], 10, 0, api.ErrNone},
	} {
		if got, errno := drop.One(c.weights, c.draw); got != c.want || errno != c.errno {
			t.Errorf("%s: got %d and error %d, want %d and error %d", c.what, got, errno, c.want, c.errno)
		}
	}
	wrong := append(invalid(),
		weighttest.Case{What: "no weights", Weights: nil},
		weighttest.Case{What: "no weights, not nil", Weights: []int{}},
		weighttest.Case{What: "one weight", Weights: []int{3}},
		weighttest.Case{What: "one weight, and spare capacity", Weights: weights[:1]},
		weighttest.Case{What: "the largest weight alone", Weights: []int{maxWeight}})
	for _, c := range wrong {
		for _, draw := range []int{0, 1, 2, -1, math.MinInt, 401, math.MaxInt} {
			if got, errno := drop.One(c.Weights, draw); got != 0 || errno != api.ErrRange {
				t.Errorf("%s, draw %d: got %d and error %d, want error %d", c.What, draw, got, errno, api.ErrRange)
			}
		}
	}
}

// TestOneIsAsDescribed drops with every draw, from segments short enough to be written out.
func TestOneIsAsDescribed(t *testing.T) {
	each(func(weights []int) {
		if len(weights) < 2 {
			return
		}
		level := modelLevel(weights, len(weights)-1)
		var owners []int
		for k, weight := range weights {
			owners = append(owners, weighttest.Same(k, max(0, level.Num-weight*level.Den))...)
		}
		for draw, want := range owners {
			if got, errno := drop.One(weights, draw); got != want || errno != api.OK {
				t.Errorf("%v, draw %d: got %d and error %d, want %d", weights, draw, got, errno, want)
			}
		}
		for _, draw := range []int{-2, -1, len(owners), len(owners) + 1} {
			if got, errno := drop.One(weights, draw); got != 0 || errno != api.ErrNone {
				t.Errorf("%v, draw %d: got %d and error %d, want error %d", weights, draw, got, errno, api.ErrNone)
			}
		}
	})
}

// TestOneOfMany drops with the draws at both ends of each segment of long lists.
func TestOneOfMany(t *testing.T) {
	for _, weights := range many() {
		if len(weights) < 2 {
			continue
		}
		level, end := modelLevel(weights, len(weights)-1), 0
		for k, weight := range weights {
			length := level.Num - weight*level.Den
			if length <= 0 {
				continue
			}
			for _, draw := range []int{end, end + length - 1} {
				if got, errno := drop.One(weights, draw); got != k || errno != api.OK {
					t.Errorf("%v, draw %d: got %d and error %d, want %d", weights, draw, got, errno, k)
				}
			}
			end += length
		}
		if got, errno := drop.One(weights, end); got != 0 || errno != api.ErrNone {
			t.Errorf("%v, draw %d: got %d and error %d, want error %d", weights, end, got, errno, api.ErrNone)
		}
	}
}

// TestTotalIsExpected counts over all draws: each element is kept in proportion to its weight, and the sample has the total weight of all elements in expectation, where an element below the threshold counts with the threshold.
func TestTotalIsExpected(t *testing.T) {
	each(func(weights []int) {
		if len(weights) < 2 {
			return
		}
		level, errno := drop.Level(weights, len(weights)-1)
		if errno != api.OK {
			t.Fatalf("%v: error %d", weights, errno)
		}
		kept := weighttest.Same(level.Num, len(weights))
		for draw := range level.Num {
			index, errno := drop.One(weights, draw)
			if errno != api.OK || index < 0 || index >= len(kept) {
				t.Fatalf("%v, draw %d: got %d and error %d", weights, draw, index, errno)
			}
			kept[index]--
		}
		total := 0
		for k, weight := range weights {
			if kept[k] != min(level.Num, weight*level.Den) {
				t.Errorf("%v: index %d is kept %d of %d times", weights, k, kept[k], level.Num)
			}
			total += kept[k] * max(level.Num, weight*level.Den)
		}
		if total != weighttest.Total(weights)*level.Num*level.Den {
			t.Errorf("%v: with the threshold %v, the samples have the total weight %d", weights, level, total)
		}
	})
}

// TestArguments: no argument is changed, its spare capacity is neither read nor changed, and the results share no memory.
func TestArguments(t *testing.T) {
	for _, weights := range [][]int{nil, {5}, {0}, {1, 3}, {1, 9, 2, 3}, {9, 3, 2, 1}, {2, -1}, weighttest.Same(1, 400), weighttest.Same(1, 401), pooltest.Span(1, 401)} {
		plain := slices.Clip(slices.Clone(weights))
		all := slices.Concat(weights, []int{1, -1, 7})
		given := all[:len(weights)]
		for number := -1; number <= 5; number++ {
			if got, want := everything(given, number), everything(plain, number); got != want {
				t.Errorf("%v, %d: with spare capacity got %s, want %s", weights, number, got, want)
			}
			checkUnshared(t, given, number)
		}
		if !slices.Equal(all, slices.Concat(weights, []int{1, -1, 7})) {
			t.Errorf("%v: changed", weights)
		}
	}
}

// everything returns the results of all functions as text, with number for both keep and draw.
func everything(weights []int, number int) string {
	level, errno := drop.Level(weights, number)
	heavy, heavyErrno := drop.Heavy(weights, number)
	index, indexErrno := drop.One(weights, number)
	return fmt.Sprint(drop.Wrong(weights, number), level, errno, heavy, heavyErrno, index, indexErrno)
}

// checkUnshared reports memory that two results of Heavy share.
func checkUnshared(t *testing.T, weights []int, keep int) {
	t.Helper()
	one, _ := drop.Heavy(weights, keep)
	two, _ := drop.Heavy(weights, keep)
	want := slices.Clone(two)
	one = one[:cap(one)]
	for k := range one {
		one[k] = !one[k]
	}
	if !slices.Equal(two, want) {
		t.Errorf("%v, keep %d: two results share memory", weights, keep)
	}
}
