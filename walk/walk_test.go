package walk_test

import (
	"math"
	"slices"
	"testing"

	"lotdrawer/api"
	"lotdrawer/walk"
)

const (
	// mostSteps is the most steps of a path.
	mostSteps = 56
	// highest is the largest height that may be asked for.
	highest = 100
	// level is the index of height 0 in a row of counts, and the last index is as far above it: no path gets farther.
	level = highest + mostSteps + 1
)

// check reports a result that isn't the one expected.
func check(t *testing.T, got int, errno api.Errno, want int, wantErrno api.Errno, what string, arguments ...int) {
	t.Helper()
	if got != want || errno != wantErrno {
		t.Errorf("%s%v: got %d and error %d, want %d and error %d", what, arguments, got, errno, want, wantErrno)
	}
}

// paths calls visit with the heights of each path of n steps from from. The heights are the same slice each time.
func paths(n, from int, visit func(heights []int)) {
	heights := []int{from}
	var extend func()
	extend = func() {
		if len(heights) == n+1 {
			visit(heights)
			return
		}
		last := heights[len(heights)-1]
		for _, next := range []int{last - 1, last + 1} {
			heights = append(heights, next)
			extend()
			heights = heights[:len(heights)-1]
		}
	}
	extend()
}

// rows returns, for every number of steps, how many paths from from end at each height, all their heights allowed.
func rows(from int, allowed func(height int) bool) [mostSteps + 1][]int {
	var all [mostSteps + 1][]int
	for n := range all {
		all[n] = make([]int, 2*level+1)
		for i := 1; i < 2*level; i++ {
			switch {
			case !allowed(i - level):
			case n > 0:
				all[n][i] = all[n-1][i-1] + all[n-1][i+1]
			case i == level+from:
				all[n][i] = 1
			}
		}
	}
	return all
}

func TestFree(t *testing.T) {
	for _, c := range []struct {
		n, to, want int
		errno       api.Errno
	}{
		{4, 2, 4, api.OK}, // the document's example
		{4, -2, 4, api.OK},
		{0, 0, 1, api.OK},
		{0, 1, 0, api.OK},
		{0, 2, 0, api.OK},
		{0, -2, 0, api.OK},
		{1, 0, 0, api.OK},
		{1, 1, 1, api.OK},
		{1, -1, 1, api.OK},
		{1, 3, 0, api.OK},
		{2, 0, 2, api.OK},
		{4, 1, 0, api.OK},
		{9, -3, 84, api.OK},
		{40, 10, 40225345056, api.OK},
		{55, -7, 2488589544741300, api.OK},
		{56, 0, 7648690600760440, api.OK},
		{56, 2, 7384942649010080, api.OK},
		{56, 1, 0, api.OK},
		{56, 54, 56, api.OK},
		{56, -56, 1, api.OK},
		{56, 58, 0, api.OK},
		{56, 100, 0, api.OK},
		{56, -100, 0, api.OK},
		{57, 0, 0, api.ErrRange},
		{57, 1, 0, api.ErrRange},
		{-1, 0, 0, api.ErrRange},
		{-1, -1, 0, api.ErrRange},
		{4, 101, 0, api.ErrRange},
		{4, -101, 0, api.ErrRange},
		{4, 102, 0, api.ErrRange},
		{57, 101, 0, api.ErrRange},
		{math.MaxInt, 1, 0, api.ErrRange},
		{math.MinInt, 0, 0, api.ErrRange},
		{4, math.MaxInt, 0, api.ErrRange},
		{4, math.MinInt, 0, api.ErrRange},
	} {
		got, errno := walk.Free(c.n, c.to)
		check(t, got, errno, c.want, c.errno, "Free", c.n, c.to)
	}
}

func TestAbove(t *testing.T) {
	for _, c := range []struct {
		n, from, to, want int
		errno             api.Errno
	}{
		{2, 1, 1, 1, api.OK},
		{2, 2, 2, 2, api.OK},
		{3, 1, 2, 2, api.OK},
		{0, 1, 1, 1, api.OK},
		{0, 100, 100, 1, api.OK},
		{0, 1, 3, 0, api.OK},
		{1, 1, 2, 1, api.OK},
		{1, 2, 1, 1, api.OK},
		{2, 1, 2, 0, api.OK},
		{0, 0, 0, 0, api.OK}, // both ends count
		{0, -1, -1, 0, api.OK},
		{1, 0, 1, 0, api.OK},
		{1, 1, 0, 0, api.OK},
		{2, 0, 2, 0, api.OK},
		{2, 0, 0, 0, api.OK},
		{2, -1, 1, 0, api.OK},
		{2, 1, -1, 0, api.OK},
		{2, -1, -1, 0, api.OK},
		{2, -5, -5, 0, api.OK},
		{20, 6, 2, 87210, api.OK},
		{30, 2, 10, 40320150, api.OK},
		{55, 3, 8, 1784997409818987, api.OK},
		{56, 1, 1, 263747951750360, api.OK},
		{56, 10, 4, 4227674473654632, api.OK},
		{56, 28, 28, 7648690600760439, api.OK},
		{56, 57, 1, 1, api.OK},
		{56, 58, 2, 1, api.OK},
		{56, 100, 44, 1, api.OK},
		{56, 100, 42, 0, api.OK},
		{56, 100, 100, 7648690600760440, api.OK},
		{56, -100, -100, 0, api.OK},
		{57, 1, 1, 0, api.ErrRange},
		{57, 1, 2, 0, api.ErrRange},
		{-1, 1, 1, 0, api.ErrRange},
		{-1, 1, 2, 0, api.ErrRange},
		{2, 101, 101, 0, api.ErrRange},
		{2, 101, 99, 0, api.ErrRange},
		{2, 99, 101, 0, api.ErrRange},
		{2, -101, 1, 0, api.ErrRange},
		{2, 1, -101, 0, api.ErrRange},
		{math.MaxInt, 1, 1, 0, api.ErrRange},
		{math.MinInt, 1, 1, 0, api.ErrRange},
		{2, math.MaxInt, 1, 0, api.ErrRange},
		{2, 1, math.MaxInt, 0, api.ErrRange},
		{2, math.MinInt, 1, 0, api.ErrRange},
		{2, 1, math.MinInt, 0, api.ErrRange},
		{2, math.MaxInt, math.MaxInt, 0, api.ErrRange},
	} {
		got, errno := walk.Above(c.n, c.from, c.to)
		check(t, got, errno, c.want, c.errno, "Above", c.n, c.from, c.to)
	}
}

func TestBetween(t *testing.T) {
	for _, c := range []struct {
		n, from, to, top, want int
		errno                  api.Errno
	}{
		{2, 1, 1, 3, 1, api.OK},
		{2, 1, 1, 2, 0, api.OK},
		{0, 1, 1, 2, 1, api.OK},
		{0, 1, 1, 1, 0, api.OK},
		{0, 99, 99, 100, 1, api.OK},
		{0, 1, 2, 3, 0, api.OK},
		{1, 1, 2, 3, 1, api.OK},
		{1, 2, 1, 3, 1, api.OK},
		{1, 1, 2, 2, 0, api.OK}, // both ends count
		{1, 2, 1, 2, 0, api.OK},
		{1, 0, 1, 3, 0, api.OK},
		{1, 1, 0, 3, 0, api.OK},
		{2, 0, 0, 3, 0, api.OK},
		{2, 3, 3, 3, 0, api.OK},
		{2, 5, 5, 3, 0, api.OK},
		{2, -1, 1, 3, 0, api.OK},
		{2, 1, -1, 3, 0, api.OK},
		{0, 0, 0, 0, 0, api.OK},
		{0, 0, 0, 1, 0, api.OK},
		{0, 0, 0, 5, 0, api.OK},
		{0, 5, 5, 5, 0, api.OK},
		{2, 1, 1, 0, 0, api.OK},
		{2, 1, 1, -3, 0, api.OK},
		{2, -1, -1, -3, 0, api.OK},
		{2, -2, -2, -1, 0, api.OK},
		{2, -1, -1, 5, 0, api.OK},
		{56, 100, 100, 100, 0, api.OK},
		{56, 100, 100, -100, 0, api.OK},
		{56, -100, -100, -100, 0, api.OK},
		{56, 1, 1, 3, 1, api.OK},
		{55, 1, 2, 4, 134217728, api.OK},
		{56, 2, 4, 6, 11438396227480, api.OK},
		{55, 3, 8, 11, 768835515793720, api.OK},
		{30, 2, 10, 12, 28048800, api.OK},
		{56, 10, 10, 20, 7224037462200790, api.OK},
		{56, 28, 28, 57, 7648690600760439, api.OK},
		{56, 50, 50, 100, 7648690600760440, api.OK},
		{56, 1, 1, 100, 263747951750360, api.OK},
		{56, 99, 99, 100, 263747951750360, api.OK},
		{56, 1, 99, 100, 0, api.OK},
		{57, 1, 1, 3, 0, api.ErrRange},
		{57, 1, 1, 0, 0, api.ErrRange},
		{-1, 1, 1, 3, 0, api.ErrRange},
		{-1, 1, 1, 0, 0, api.ErrRange},
		{2, 101, 1, 3, 0, api.ErrRange},
		{2, 1, 101, 3, 0, api.ErrRange},
		{2, 1, 1, 101, 0, api.ErrRange},
		{2, -101, 1, 3, 0, api.ErrRange},
		{2, 1, -101, 3, 0, api.ErrRange},
		{2, 1, 1, -101, 0, api.ErrRange},
		{math.MaxInt, 1, 1, 3, 0, api.ErrRange},
		{math.MinInt, 1, 1, 3, 0, api.ErrRange},
		{2, math.MaxInt, 1, 3, 0, api.ErrRange},
		{2, math.MinInt, 1, 3, 0, api.ErrRange},
		{2, 1, math.MaxInt, 3, 0, api.ErrRange},
		{2, 1, math.MinInt, 3, 0, api.ErrRange},
		{2, 1, 1, math.MaxInt, 0, api.ErrRange},
		{2, 1, 1, math.MinInt, 0, api.ErrRange},
	} {
		got, errno := walk.Between(c.n, c.from, c.to, c.top)
		check(t, got, errno, c.want, c.errno, "Between", c.n, c.from, c.to, c.top)
	}
}

// TestPathsByListing lists all short paths, and picks those that the document means.
func TestPathsByListing(t *testing.T) {
	const far = 7 // ends and tops are as far from 0 as this at most
	for n := range 6 {
		for from := -far; from <= far; from++ {
			above := map[int]int{}
			between := map[[2]int]int{}
			paths(n, from, func(heights []int) {
				to := heights[n]
				if slices.Min(heights) <= 0 {
					return
				}
				above[to]++
				for top := slices.Max(heights) + 1; top <= far; top++ {
					between[[2]int{to, top}]++
				}
			})
			for to := -far; to <= far; to++ {
				got, errno := walk.Above(n, from, to)
				check(t, got, errno, above[to], api.OK, "Above", n, from, to)
				for top := -far; top <= far; top++ {
					got, errno := walk.Between(n, from, to, top)
					check(t, got, errno, between[[2]int{to, top}], api.OK, "Between", n, from, to, top)
				}
			}
		}
	}
}

// TestFreeByRows compares every count there is with the one that grows step by step.
func TestFreeByRows(t *testing.T) {
	all := rows(0, func(int) bool { return true })
	for n := range all {
		for to := -highest; to <= highest; to++ {
			got, errno := walk.Free(n, to)
			check(t, got, errno, all[n][level+to], api.OK, "Free", n, to)
		}
	}
}

// TestAboveByRows compares every count there is with the one that grows step by step.
func TestAboveByRows(t *testing.T) {
	for from := -highest; from <= highest; from++ {
		all := rows(from, func(height int) bool { return height > 0 })
		for n := range all {
			for to := -highest; to <= highest; to++ {
				got, errno := walk.Above(n, from, to)
				check(t, got, errno, all[n][level+to], api.OK, "Above", n, from, to)
			}
		}
	}
}

// TestBetweenByRows compares counts of narrow and of the widest strips with those that grow step by step.
func TestBetweenByRows(t *testing.T) {
	for _, top := range []int{-1, 0, 1, 2, 3, 4, 5, 6, 9, 28, 57, 58, 99, 100} {
		for from := -1; from <= top+1 && from <= highest; from++ {
			all := rows(from, func(height int) bool { return height > 0 && height < top })
			for _, n := range []int{0, 1, 2, 3, 7, 20, 55, 56} {
				for to := -1; to <= top+1 && to <= highest; to++ {
					got, errno := walk.Between(n, from, to, top)
					check(t, got, errno, all[n][level+to], api.OK, "Between", n, from, to, top)
				}
			}
		}
	}
}

// TestReflectionPrinciple compares the paths that touch 0 with all paths from the reflected height.
func TestReflectionPrinciple(t *testing.T) {
	for n := range mostSteps + 1 {
		for from := 1; from <= highest/2; from++ {
			for to := 1; to <= highest/2; to++ {
				all, _ := walk.Free(n, to-from)
				reflected, _ := walk.Free(n, to+from)
				got, errno := walk.Above(n, from, to)
				check(t, got, errno, all-reflected, api.OK, "Above", n, from, to)
			}
		}
	}
}

// TestBallotTheorem checks that to of n paths from 0 to to are above 0 from the first step on.
func TestBallotTheorem(t *testing.T) {
	for n := 1; n <= mostSteps; n++ {
		for to := 1; to <= n; to++ {
			all, _ := walk.Free(n, to)
			ahead, errno := walk.Above(n-1, 1, to)
			check(t, n*ahead, errno, to*all, api.OK, "n times Above", n-1, 1, to)
		}
	}
}

func TestFirst(t *testing.T) {
	for _, c := range []struct {
		n, want int
		errno   api.Errno
	}{
		{0, 0, api.OK}, // the document's edge case
		{1, 0, api.OK},
		{2, 2, api.OK},
		{3, 0, api.OK},
		{4, 2, api.OK},
		{6, 4, api.OK},
		{7, 0, api.OK},
		{8, 10, api.OK},
		{10, 28, api.OK},
		{30, 5348880, api.OK},
		{54, 36734706144304, api.OK},
		{55, 0, api.OK},
		{56, 139067101832008, api.OK},
		{57, 0, api.ErrRange},
		{58, 0, api.ErrRange},
		{-1, 0, api.ErrRange},
		{-2, 0, api.ErrRange},
		{math.MaxInt, 0, api.ErrRange},
		{math.MinInt, 0, api.ErrRange},
	} {
		got, errno := walk.First(c.n)
		check(t, got, errno, c.want, c.errno, "First", c.n)
	}
}

func TestCatalan(t *testing.T) {
	for n, want := range []int{ // from a separate program that counts step by step; 5 is the document's example
		1, 1, 2, 5, 14, 42, 132, 429, 1430, 4862, 16796, 58786, 208012, 742900, 2674440, 9694845,
		35357670, 129644790, 477638700, 1767263190, 6564120420, 24466267020, 91482563640,
		343059613650, 1289904147324, 4861946401452, 18367353072152, 69533550916004, 263747951750360,
	} {
		got, errno := walk.Catalan(n)
		check(t, got, errno, want, api.OK, "Catalan", n)
	}
	// Twice the last of them wraps around to 6.
	for _, n := range []int{-1, -2, 29, 30, 56, 57, 1 << 62, math.MaxInt, math.MinInt, math.MinInt + 3} {
		got, errno := walk.Catalan(n)
		check(t, got, errno, 0, api.ErrRange, "Catalan", n)
	}
}

// TestReturnsByListing lists all short paths from 0, and picks those that the document means.
func TestReturnsByListing(t *testing.T) {
	for n := range 17 {
		first, floored := 0, 0
		paths(n, 0, func(heights []int) {
			if heights[n] != 0 {
				return
			}
			if n > 0 && !slices.Contains(heights[1:n], 0) {
				first++
			}
			if slices.Min(heights) == 0 {
				floored++
			}
		})
		got, errno := walk.First(n)
		check(t, got, errno, first, api.OK, "First", n)
		if n%2 == 0 {
			got, errno = walk.Catalan(n / 2)
			check(t, got, errno, floored, api.OK, "Catalan", n/2)
		}
	}
}

// TestFirstReturns checks, for all numbers of steps, that a path back at 0 is one to its first return and a rest.
func TestFirstReturns(t *testing.T) {
	for n := 1; n <= mostSteps; n++ {
		sum := 0
		for steps := range n + 1 {
			first, errno := walk.First(steps)
			if errno != api.OK {
				t.Errorf("First(%d): error %d", steps, errno)
			}
			rest, _ := walk.Free(n-steps, 0)
			sum += first * rest
		}
		all, errno := walk.Free(n, 0)
		check(t, all, errno, sum, api.OK, "Free", n, 0)
	}
}
