package combo_test

import (
	"math"
	"math/big"
	"slices"
	"testing"

	"lotdrawer/api"
	"lotdrawer/combo"
)

// maxN is the largest n that the document allows.
const maxN = 60

// of60by30 is the number of combinations of 60 with 30 elements, the largest count there is.
const of60by30 = 118264581564861424

// span returns the numbers from low to high-1 in order.
func span(low, high int) []int {
	var c []int
	for number := low; number < high; number++ {
		c = append(c, number)
	}
	return c
}

// order compares two combinations of one size as the document says: by the last position at which they differ.
func order(a, b []int) int {
	for i := len(a) - 1; i >= 0; i-- {
		if a[i] != b[i] {
			return a[i] - b[i]
		}
	}
	return 0
}

// all returns every combination of n with k elements in the document's order.
func all(n, k int) [][]int {
	var found [][]int
	for set := range 1 << n {
		var c []int
		for number := range n {
			if set>>number&1 == 1 {
				c = append(c, number)
			}
		}
		if len(c) == k {
			found = append(found, c)
		}
	}
	slices.SortFunc(found, order)
	return found
}

// invalid returns pairs of an n and a slice that is no combination of it.
func invalid() []struct {
	n int
	c []int
} {
	return []struct {
		n int
		c []int
	}{
		{5, []int{3, 1}},
		{5, []int{1, 1}},
		{5, []int{0, 2, 2}},
		{5, []int{0, 3, 2}},
		{5, []int{2, 0, 3}},
		{5, []int{5}},
		{5, []int{1, 5}},
		{5, []int{-1}},
		{5, []int{-1, 2}},
		{5, []int{0, 1, 2, 3, 4, 5}},
		{5, []int{0, 1, 2, 3, 4, 4}},
		{5, []int{math.MaxInt}},
		{5, []int{math.MinInt}},
		{5, []int{math.MaxInt, math.MinInt}},
		{5, []int{0, math.MaxInt, 1}},
		{0, []int{0}},
		{0, []int{-1}},
		{1, []int{1}},
		{1, []int{0, 0}},
		{60, []int{60}},
		{60, span(0, 61)},
		{60, make([]int, 1000)},
		{61, nil}, // combinations, but of an n that is out of range
		{61, []int{0}},
		{61, []int{1, 3}},
		{61, []int{60}},
		{math.MaxInt, nil},
		{math.MaxInt, []int{1, 3}},
		{-1, nil},
		{-1, []int{}},
		{-1, []int{0}},
		{-1, []int{-2}},
		{math.MinInt, nil},
		{math.MinInt, []int{math.MinInt}},
	}
}

// check reports a result that isn't the one expected.
func check(t *testing.T, what string, got []int, errno api.Errno, want []int, wantErrno api.Errno) {
	t.Helper()
	if !slices.Equal(got, want) || errno != wantErrno {
		t.Errorf("%s: got %v and error %d, want %v and error %d", what, got, errno, want, wantErrno)
	}
}

func TestOf(t *testing.T) {
	for _, c := range []struct {
		n, k, want int
		errno      api.Errno
	}{
		{5, 2, 10, api.OK}, // the document's examples
		{2, 5, 0, api.OK},
		{0, 0, 1, api.OK},
		{0, 1, 0, api.OK},
		{1, 0, 1, api.OK},
		{1, 1, 1, api.OK},
		{52, 5, 2598960, api.OK},
		{60, 0, 1, api.OK},
		{60, 1, 60, api.OK},
		{60, 30, of60by30, api.OK},
		{60, 59, 60, api.OK},
		{60, 60, 1, api.OK},
		{60, 61, 0, api.OK},
		{60, math.MaxInt, 0, api.OK},
		{0, math.MaxInt, 0, api.OK},
		{61, 0, 0, api.ErrRange},
		{61, 30, 0, api.ErrRange},
		{61, 62, 0, api.ErrRange},
		{-1, 0, 0, api.ErrRange},
		{-1, 1, 0, api.ErrRange},
		{5, -1, 0, api.ErrRange},
		{0, -1, 0, api.ErrRange},
		{-1, -1, 0, api.ErrRange},
		{math.MaxInt, 1, 0, api.ErrRange},
		{math.MaxInt, math.MaxInt, 0, api.ErrRange},
		{math.MinInt, 1, 0, api.ErrRange},
		{60, math.MinInt, 0, api.ErrRange},
	} {
		got, errno := combo.Of(c.n, c.k)
		if got != c.want || errno != c.errno {
			t.Errorf("Of(%d, %d): got %d and error %d, want %d and error %d", c.n, c.k, got, errno, c.want, c.errno)
		}
	}
}

// TestOfIsExact compares every count there is with the exact one.
func TestOfIsExact(t *testing.T) {
	for n := range maxN + 1 {
		for k := range maxN + 3 {
			want := new(big.Int).Binomial(int64(n), int64(k))
			got, errno := combo.Of(n, k)
			if errno != api.OK || want.Cmp(big.NewInt(int64(got))) != 0 {
				t.Errorf("Of(%d, %d): got %d and error %d, want %d", n, k, got, errno, want)
			}
		}
	}
}

func TestRight(t *testing.T) {
	for _, c := range []struct {
		n int
		c []int
	}{
		{0, nil},
		{0, []int{}},
		{5, nil},
		{5, []int{}},
		{60, nil},
		{1, []int{0}},
		{5, []int{1, 3}},
		{5, []int{4}},
		{5, []int{0, 4}},
		{5, span(0, 5)},
		{60, []int{59}},
		{60, []int{0, 59}},
		{60, span(0, 60)},
		{60, span(30, 60)},
	} {
		if !combo.Right(c.n, c.c) {
			t.Errorf("%v of %d: not valid", c.c, c.n)
		}
	}
	for _, c := range invalid() {
		if combo.Right(c.n, c.c) {
			t.Errorf("%v of %d: valid", c.c, c.n)
		}
	}
}

// TestRightCounts goes through all slices of numbers from -1 to n: exactly as many as Of says are valid.
func TestRightCounts(t *testing.T) {
	for n := range 6 {
		for k := range n + 2 {
			slicesOf, valid := 1, 0
			for range k {
				slicesOf *= n + 2
			}
			for number := range slicesOf {
				c := make([]int, k)
				for i := range c {
					c[i] = number%(n+2) - 1
					number /= n + 2
				}
				if combo.Right(n, c) {
					valid++
				}
			}
			if want := len(all(n, k)); valid != want {
				t.Errorf("%d of %d: got %d valid ones, want %d", k, n, valid, want)
			}
		}
	}
}

func TestRest(t *testing.T) {
	for _, c := range []struct {
		what    string
		n       int
		c, want []int
	}{
		{"the document's example", 5, []int{1, 3}, []int{0, 2, 4}},
		{"nothing of nothing", 0, nil, nil},
		{"nil", 3, nil, []int{0, 1, 2}},
		{"empty", 3, []int{}, []int{0, 1, 2}},
		{"all", 3, []int{0, 1, 2}, nil},
		{"one of one", 1, []int{0}, nil},
		{"first ones", 5, []int{0, 1}, []int{2, 3, 4}},
		{"last ones", 5, []int{3, 4}, []int{0, 1, 2}},
		{"nothing of 60", 60, nil, span(0, 60)},
		{"all of 60", 60, span(0, 60), nil},
		{"the last of 60", 60, []int{59}, span(0, 59)},
		{"half of 60", 60, span(0, 30), span(30, 60)},
	} {
		got, errno := combo.Rest(c.n, c.c)
		check(t, c.what, got, errno, c.want, api.OK)
	}
}

// TestRestIsTheComplement: together with its complement a combination has every number once, for all combinations.
func TestRestIsTheComplement(t *testing.T) {
	for n := range 11 {
		for k := range n + 1 {
			for _, c := range all(n, k) {
				rest, errno := combo.Rest(n, c)
				if errno != api.OK || !slices.IsSorted(rest) {
					t.Errorf("Rest(%d, %v): got %v and error %d", n, c, rest, errno)
				}
				both := slices.Sorted(slices.Values(slices.Concat(c, rest)))
				check(t, "together", both, errno, span(0, n), api.OK)
				back, errno := combo.Rest(n, rest)
				check(t, "complement of the complement", back, errno, c, api.OK)
			}
		}
	}
}

func TestRank(t *testing.T) {
	for _, c := range []struct {
		n    int
		c    []int
		want int
	}{
		{5, []int{1, 3}, 4},  // the document's example
		{60, []int{1, 3}, 4}, // the larger numbers come later, so n makes no difference
		{0, nil, 0},
		{5, nil, 0},
		{5, []int{}, 0},
		{1, []int{0}, 0},
		{5, []int{0, 1}, 0},
		{5, []int{0, 3}, 3},
		{5, []int{2, 3}, 5},
		{5, []int{0, 4}, 6},
		{5, []int{3, 4}, 9},
		{5, span(0, 5), 0},
		{60, []int{59}, 59},
		{60, span(0, 60), 0},
		{60, span(0, 30), 0},
		{60, append(span(0, 29), 30), 1},
		{60, append(span(0, 29), 59), of60by30 / 2}, // half of them are without 59
		{60, span(30, 60), of60by30 - 1},
	} {
		got, errno := combo.Rank(c.n, c.c)
		if got != c.want || errno != api.OK {
			t.Errorf("Rank(%d, %v): got %d and error %d, want %d", c.n, c.c, got, errno, c.want)
		}
	}
}

func TestAt(t *testing.T) {
	for _, c := range []struct {
		n, k, r int
		want    []int
		errno   api.Errno
	}{
		{5, 2, 4, []int{1, 3}, api.OK}, // the document's example
		{60, 2, 4, []int{1, 3}, api.OK},
		{0, 0, 0, nil, api.OK},
		{5, 0, 0, nil, api.OK},
		{60, 0, 0, nil, api.OK},
		{1, 1, 0, []int{0}, api.OK},
		{5, 2, 0, []int{0, 1}, api.OK},
		{5, 2, 9, []int{3, 4}, api.OK},
		{5, 5, 0, span(0, 5), api.OK},
		{60, 1, 59, []int{59}, api.OK},
		{60, 60, 0, span(0, 60), api.OK},
		{60, 30, 0, span(0, 30), api.OK},
		{60, 30, of60by30/2 - 1, span(29, 59), api.OK},
		{60, 30, of60by30 / 2, append(span(0, 29), 59), api.OK},
		{60, 30, of60by30 - 1, span(30, 60), api.OK},
		{0, 0, 1, nil, api.ErrNone},
		{5, 0, 1, nil, api.ErrNone},
		{0, 1, 0, nil, api.ErrNone}, // more elements than numbers
		{2, 5, 0, nil, api.ErrNone},
		{60, 61, 0, nil, api.ErrNone},
		{60, math.MaxInt, 0, nil, api.ErrNone},
		{60, math.MaxInt, math.MaxInt, nil, api.ErrNone},
		{5, 2, 10, nil, api.ErrNone},
		{5, 2, 11, nil, api.ErrNone},
		{5, 5, 1, nil, api.ErrNone},
		{60, 60, 1, nil, api.ErrNone},
		{60, 30, of60by30, nil, api.ErrNone},
		{60, 30, math.MaxInt, nil, api.ErrNone},
		{61, 2, 0, nil, api.ErrRange},
		{-1, 0, 0, nil, api.ErrRange},
		{math.MaxInt, 1, 0, nil, api.ErrRange},
		{math.MinInt, 1, 0, nil, api.ErrRange},
		{5, -1, 0, nil, api.ErrRange},
		{5, math.MinInt, 0, nil, api.ErrRange},
		{5, 2, -1, nil, api.ErrRange},
		{5, 2, math.MinInt, nil, api.ErrRange},
		{2, 5, -1, nil, api.ErrRange}, // ErrRange is checked before ErrNone
		{-1, 1, 0, nil, api.ErrRange},
		{61, 62, 0, nil, api.ErrRange},
		{61, 2, math.MaxInt, nil, api.ErrRange},
		{5, -1, 1, nil, api.ErrRange},
		{-1, -1, -1, nil, api.ErrRange},
	} {
		got, errno := combo.At(c.n, c.k, c.r)
		if !slices.Equal(got, c.want) || errno != c.errno {
			t.Errorf("At(%d, %d, %d): got %v and error %d, want %v and error %d", c.n, c.k, c.r, got, errno, c.want, c.errno)
		}
	}
}

func TestNext(t *testing.T) {
	for _, c := range []struct {
		n       int
		c, want []int
		errno   api.Errno
	}{
		{5, []int{1, 3}, []int{2, 3}, api.OK}, // the document's example
		{5, []int{2, 3}, []int{0, 4}, api.OK},
		{5, []int{0, 1}, []int{0, 2}, api.OK},
		{5, []int{0}, []int{1}, api.OK},
		{5, []int{1, 2, 3}, []int{0, 1, 4}, api.OK},
		{5, []int{0, 3, 4}, []int{1, 3, 4}, api.OK},
		{6, []int{3, 4}, []int{0, 5}, api.OK}, // the last of 5, but not of 6
		{60, []int{58}, []int{59}, api.OK},
		{60, span(0, 59), append(span(0, 58), 59), api.OK},
		{60, span(29, 59), append(span(0, 29), 59), api.OK},
		{5, []int{3, 4}, nil, api.ErrNone},
		{5, []int{4}, nil, api.ErrNone},
		{5, span(0, 5), nil, api.ErrNone},
		{1, []int{0}, nil, api.ErrNone},
		{0, nil, nil, api.ErrNone}, // the only one of its size
		{5, nil, nil, api.ErrNone},
		{5, []int{}, nil, api.ErrNone},
		{60, []int{59}, nil, api.ErrNone},
		{60, span(30, 60), nil, api.ErrNone},
		{60, span(0, 60), nil, api.ErrNone},
	} {
		got, errno := combo.Next(c.n, c.c)
		if !slices.Equal(got, c.want) || errno != c.errno {
			t.Errorf("Next(%d, %v): got %v and error %d, want %v and error %d", c.n, c.c, got, errno, c.want, c.errno)
		}
	}
}

// TestRanksAreInOrder goes through all combinations of few numbers in their order.
func TestRanksAreInOrder(t *testing.T) {
	for n := range 12 {
		for k := range n + 2 {
			list := all(n, k)
			for r, c := range list {
				rank, errno := combo.Rank(n, c)
				if rank != r || errno != api.OK {
					t.Errorf("Rank(%d, %v): got %d and error %d, want %d", n, c, rank, errno, r)
				}
				got, errno := combo.At(n, k, r)
				check(t, "combination at its rank", got, errno, c, api.OK)
				got, errno = combo.Next(n, c)
				if r+1 < len(list) {
					check(t, "successor", got, errno, list[r+1], api.OK)
				} else {
					check(t, "successor of the last", got, errno, nil, api.ErrNone)
				}
			}
			got, errno := combo.At(n, k, len(list))
			check(t, "past the last", got, errno, nil, api.ErrNone)
		}
	}
}

// TestRanksOfMany takes ranks from all over the range for 60 numbers: they come back, in order, and Next adds 1.
func TestRanksOfMany(t *testing.T) {
	for k := 1; k < maxN; k++ {
		count, errno := combo.Of(maxN, k)
		if errno != api.OK {
			t.Fatalf("Of(60, %d): got error %d", k, errno)
		}
		var before []int
		for r := 0; r < count-1; r += count/100 + 1 {
			c, errno := combo.At(maxN, k, r)
			if errno != api.OK || len(c) != k || !combo.Right(maxN, c) {
				t.Fatalf("At(60, %d, %d): got %v and error %d", k, r, c, errno)
			}
			if before != nil && order(before, c) >= 0 {
				t.Errorf("At(60, %d, %d): got %v, not behind %v", k, r, c, before)
			}
			before = c
			rank, errno := combo.Rank(maxN, c)
			if rank != r || errno != api.OK {
				t.Errorf("Rank(60, %v): got %d and error %d, want %d", c, rank, errno, r)
			}
			want, _ := combo.At(maxN, k, r+1)
			next, errno := combo.Next(maxN, c)
			check(t, "successor", next, errno, want, api.OK)
		}
	}
}

func TestInvalid(t *testing.T) {
	for _, c := range invalid() {
		if rank, errno := combo.Rank(c.n, c.c); rank != 0 || errno != api.ErrForm {
			t.Errorf("Rank(%d, %v): got %d and error %d", c.n, c.c, rank, errno)
		}
		next, errno := combo.Next(c.n, c.c)
		check(t, "Next", next, errno, nil, api.ErrForm)
		rest, errno := combo.Rest(c.n, c.c)
		check(t, "Rest", rest, errno, nil, api.ErrForm)
	}
}

// everything calls all functions that take slices and returns what they return.
func everything(n int, c []int) [][]int {
	rank, rankErrno := combo.Rank(n, c)
	next, nextErrno := combo.Next(n, c)
	rest, restErrno := combo.Rest(n, c)
	right := 0
	if combo.Right(n, c) {
		right = 1
	}
	return [][]int{next, rest, {rank, right}, {int(rankErrno), int(nextErrno), int(restErrno)}}
}

// TestArguments: no argument is changed, its spare capacity is neither read nor changed, and no result shares its memory.
func TestArguments(t *testing.T) {
	for _, c := range []struct {
		n        int
		c, spare []int
	}{
		{0, []int{}, []int{0, 1}},
		{5, []int{}, []int{0, 1}},
		{5, []int{0}, []int{1, 2}},
		{5, []int{1, 3}, []int{4, 4}},
		{5, []int{2, 3}, []int{4, 5}}, // with its spare capacity it would be the last
		{5, []int{3, 4}, []int{0, 0}},
		{6, []int{3, 4, 5}, []int{6, 7}},
		{5, []int{3, 1}, []int{2, 4}},
		{5, []int{0, 5}, []int{1, 1}},
		{61, []int{0, 1}, []int{2, 3}},
		{60, span(0, 30), span(30, 60)},
	} {
		given := slices.Concat(c.c, c.spare)
		got := everything(c.n, given[:len(c.c)])
		want := everything(c.n, slices.Clip(slices.Clone(c.c)))
		if !slices.EqualFunc(got, want, slices.Equal[[]int]) {
			t.Errorf("%v of %d: the spare capacity changes the results", c.c, c.n)
		}
		for _, result := range got {
			for i := range result[:cap(result)] {
				result[:cap(result)][i] = -9
			}
		}
		if !slices.Equal(given, slices.Concat(c.c, c.spare)) {
			t.Errorf("%v of %d: changed, or shared with a result", c.c, c.n)
		}
	}
}
