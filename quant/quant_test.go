package quant_test

import (
	"math"
	"slices"
	"testing"

	"lotdrawer/api"
	"lotdrawer/pooltest"
	"lotdrawer/quant"
	"lotdrawer/weighttest"
)

// most is the largest Gap, More and total.
const most = api.MaxCount

// outside is numbers of parts that are out of range.
var outside = []int{0, -1, -2, -100, math.MinInt, math.MinInt + 1, 101, 102, 400, 1<<32 + 4, math.MaxInt}

// ranks returns entries, each given by N, Gap and More.
func ranks(entries ...[3]int) []api.Rank {
	l := []api.Rank{}
	for _, e := range entries {
		l = append(l, api.Rank{N: e[0], Gap: e[1], More: e[2]})
	}
	return l
}

// exact returns entries for numbers none of which have been compressed.
func exact(numbers ...int) []api.Rank {
	l := []api.Rank{}
	for _, n := range numbers {
		l = append(l, api.Rank{N: n, Gap: 1})
	}
	return l
}

// summary is a list of entries for a number of parts.
type summary struct {
	what  string
	parts int
	l     []api.Rank
}

// valid returns summaries that are valid.
func valid() []summary {
	return []summary{
		{"empty", 1, nil},
		{"empty, not nil", 100, []api.Rank{}},
		{"example", 4, exact(3, 5)},
		{"one entry, the most parts", 100, exact(3)},
		{"equal numbers", 4, exact(3, 3, 3)},
		{"negative numbers", 4, exact(-5, -3, 0)},
		{"the least and the largest number", 4, exact(math.MinInt, math.MaxInt)},
		{"a bound of 0, but 1 is allowed", 100, exact(1, 2, 3)},
		{"a bound of 1", 4, exact(1, 2, 3)},
		{"a Gap of the bound", 4, ranks([3]int{1, 1, 0}, [3]int{2, 2, 0}, [3]int{3, 1, 0})},
		{"Gap and More of the bound", 4, ranks([3]int{1, 1, 1}, [3]int{2, 1, 1}, [3]int{3, 2, 0})},
		{"a More of all but the Gap", 2, ranks([3]int{1, 1, 4}, [3]int{2, 4, 0})},
		{"one entry for many elements, the least parts", 1, ranks([3]int{1, 7, 7})},
		{"the largest total", 2, ranks([3]int{1, most, 0})},
		{"the largest Gap and More", 1, ranks([3]int{1, most, most})},
		{"the largest More", 1, ranks([3]int{1, 1, most}, [3]int{2, most - 1, most - 1})},
		{"the largest total, of two entries", 4, ranks([3]int{1, most / 2, 0}, [3]int{1, most / 2, 0})},
		{"the largest total, the most parts", 100, slices.Repeat(ranks([3]int{1, most / 128, most / 128}), 128)},
		{"400 entries", 100, exact(pooltest.Span(1, 401)...)},
		{"400 equal entries of the bound", 100, slices.Repeat(ranks([3]int{1, 3, 21}), 400)},
		{"of the spare capacity nothing", 4, exact(3, 5, 4)[:2]},
	}
}

// invalid returns summaries that break one rule each, or several.
func invalid() []summary {
	l := []summary{
		{"a Gap of 0", 4, ranks([3]int{1, 1, 0}, [3]int{2, 0, 0}, [3]int{3, 1, 0})},
		{"only a Gap of 0", 4, ranks([3]int{1, 0, 0})},
		{"a Gap of 0, More of 1", 4, ranks([3]int{1, 0, 1})},
		{"a negative Gap", 1, ranks([3]int{1, 5, 0}, [3]int{2, -1, 0})},
		{"the least Gap", 1, ranks([3]int{1, math.MinInt, 0}, [3]int{2, 5, 0})},
		{"a negative More", 1, ranks([3]int{1, 5, -1})},
		{"the least More", 1, ranks([3]int{1, 5, math.MinInt}, [3]int{2, 1, 0})},
		{"a negative More at the end", 1, ranks([3]int{1, 5, 0}, [3]int{2, 1, -1})},
		{"a Gap that is too large", 1, ranks([3]int{1, most + 1, 0})},
		{"a More that is too large", 1, ranks([3]int{1, most, most + 1})},
		{"a More that is too large, and below the bound", 1, ranks([3]int{1, 1, most + 1}, [3]int{1, most - 1, 0})},
		{"the largest integer for Gap", 1, ranks([3]int{1, math.MaxInt, 0})},
		{"the largest integer for More", 1, ranks([3]int{1, 1, math.MaxInt})},
		{"the largest integers", 1, ranks([3]int{1, math.MaxInt, math.MaxInt})},
		{"a total that would overflow", 1, ranks([3]int{1, math.MaxInt, 0}, [3]int{2, math.MaxInt, 0}, [3]int{3, 5, 0})},
		{"a total that would overflow, and so would Gap and More", 1, ranks([3]int{1, math.MaxInt, most}, [3]int{2, math.MaxInt, most}, [3]int{3, 5, 0})},
		{"a total that is too large by 1", 1, ranks([3]int{1, most, 0}, [3]int{2, 1, 0})},
		{"a total that is too large by far", 100, slices.Repeat(ranks([3]int{1, most, 0}), 400)},
		{"a total that is too large, of two halves", 4, ranks([3]int{1, most / 2, 0}, [3]int{1, most/2 + 1, 0})},
		{"decreasing", 4, exact(5, 3)},
		{"decreasing at the end", 4, exact(3, 5, 4)},
		{"decreasing from the largest number to the least", 4, exact(math.MaxInt, math.MinInt)},
		{"decreasing at the end of 400", 100, exact(append(pooltest.Span(2, 401), 1)...)},
		{"decreasing, with a Gap of 0", 4, ranks([3]int{5, 1, 0}, [3]int{3, 0, 0})},
		{"401 entries", 100, exact(pooltest.Span(1, 402)...)},
		{"401 entries for the least parts", 1, exact(pooltest.Span(1, 402)...)},
		{"a Gap above the bound", 4, ranks([3]int{1, 1, 0}, [3]int{2, 3, 0}, [3]int{3, 1, 0})},
		{"a More above the bound at the start", 4, ranks([3]int{1, 1, 2}, [3]int{2, 2, 0}, [3]int{3, 1, 0})},
		{"a More above the bound at the end", 4, ranks([3]int{1, 1, 0}, [3]int{2, 2, 0}, [3]int{3, 1, 2})},
		{"above the bound by rounding up", 4, ranks([3]int{1, 2, 1}, [3]int{2, 2, 0}, [3]int{3, 1, 0})},
		{"a Gap of 2 for a bound of 0", 100, ranks([3]int{1, 2, 0})},
		{"a More of 1 for a bound of 0", 100, ranks([3]int{1, 1, 1})},
		{"a More of 1 for a bound of 1", 2, ranks([3]int{1, 1, 1})},
		{"one entry of two elements, three parts", 3, ranks([3]int{1, 2, 0})},
		{"the largest total above the bound", 2, ranks([3]int{1, most, 1})},
		{"400 entries, one above the bound", 100, append(slices.Repeat(ranks([3]int{1, 1, 0}), 399), ranks([3]int{1, 1, 8})...)},
	}
	for _, parts := range outside {
		l = append(l, summary{"parts out of range", parts, nil}, summary{"parts out of range for one", parts, exact(3)}, summary{"parts out of range for two", parts, exact(3, 5)})
	}
	return l
}

func TestCount(t *testing.T) {
	for _, c := range []struct {
		what string
		l    []api.Rank
		want int
	}{
		{"empty", nil, 0},
		{"empty, not nil", []api.Rank{}, 0},
		{"example", exact(3, 5), 2},
		{"one entry", ranks([3]int{9, 4, 2}), 4},
		{"neither N nor More counts", ranks([3]int{100, 1, 50}, [3]int{200, 20, 30}), 21},
		{"the largest", ranks([3]int{1, 5, 0}, [3]int{1, most - 5, 7}), most},
		{"400 entries", slices.Repeat(ranks([3]int{1, 3, 21}), 400), 1200},
		{"of the spare capacity nothing", exact(3, 5, 6)[:2], 2},
	} {
		if got := quant.Count(c.l); got != c.want {
			t.Errorf("%s: got %d, want %d", c.what, got, c.want)
		}
	}
	for _, c := range invalid() {
		quant.Count(c.l) // any result will do
	}
}

func TestRight(t *testing.T) {
	for _, c := range valid() {
		if !quant.Right(c.parts, c.l) {
			t.Errorf("%s: got false", c.what)
		}
	}
	for _, c := range invalid() {
		if quant.Right(c.parts, c.l) {
			t.Errorf("%s, parts %d: got true", c.what, c.parts)
		}
	}
	for parts := -200; parts <= 500; parts++ {
		if got, want := quant.Right(parts, nil), parts >= 1 && parts <= 100; got != want {
			t.Errorf("empty, parts %d: got %t", parts, got)
		}
	}
}

// check compares what a call returned with what it should have.
func check(t *testing.T, what string, got []api.Rank, errno api.Errno, want []api.Rank) {
	t.Helper()
	if !slices.Equal(got, want) || errno != api.OK {
		t.Errorf("%s: got %v and error %d, want %v", what, got, errno, want)
	}
}

func TestAdd(t *testing.T) {
	three := ranks([3]int{1, 1, 0}, [3]int{5, 3, 2}, [3]int{9, 2, 0})
	for _, c := range []struct {
		what  string
		parts int
		l     []api.Rank
		x     int
		want  []api.Rank
	}{
		{"example", 4, exact(3, 5), 4, exact(3, 4, 5)},
		{"the first", 4, nil, 7, exact(7)},
		{"the first, not nil", 1, []api.Rank{}, 7, exact(7)},
		{"in front of the first", 4, exact(3, 5), 2, exact(2, 3, 5)},
		{"after the last", 4, exact(3, 5), 6, exact(3, 5, 6)},
		{"equal to the first: after it", 4, ranks([3]int{3, 1, 0}, [3]int{5, 1, 0}, [3]int{5, 1, 0}, [3]int{5, 2, 0}), 3, ranks([3]int{3, 1, 0}, [3]int{5, 2, 0}, [3]int{5, 3, 0})},
		{"equal to the last: after it", 4, exact(3, 5), 5, exact(3, 5, 5)},
		{"equal to all", 4, exact(5, 5), 5, exact(5, 5, 5)},
		{"the least integer", 4, exact(math.MinInt, 0), math.MinInt, exact(math.MinInt, math.MinInt, 0)},
		{"the largest integer", 4, exact(0, math.MaxInt), math.MaxInt, exact(0, math.MaxInt, math.MaxInt)},
		{"less than any", 4, exact(0, math.MaxInt), math.MinInt, exact(math.MinInt, 0, math.MaxInt)},
		{"More from the Gap of the next", 4, ranks([3]int{1, 1, 0}, [3]int{5, 3, 0}, [3]int{9, 2, 0}), 2, ranks([3]int{1, 1, 0}, [3]int{2, 1, 2}, [3]int{5, 3, 0}, [3]int{9, 2, 0})},
		{"More from Gap and More of the next", 3, ranks([3]int{1, 1, 0}, [3]int{5, 3, 3}, [3]int{9, 5, 0}), 2, ranks([3]int{1, 1, 0}, [3]int{2, 1, 5}, [3]int{5, 3, 3}, [3]int{9, 5, 0})},
		{"all but the first into the last", 2, three, 2, ranks([3]int{1, 1, 0}, [3]int{9, 6, 0})},
		{"no More in front", 1, ranks([3]int{2, 3, 2}, [3]int{5, 2, 8}), 1, ranks([3]int{1, 1, 0}, [3]int{2, 3, 2}, [3]int{5, 2, 8})},
		{"no More at the end", 2, three, 9, ranks([3]int{1, 1, 0}, [3]int{9, 6, 0})},
		{"compressed into the next", 2, exact(3, 5, 8), 4, ranks([3]int{3, 1, 0}, [3]int{8, 3, 0})},
		{"from the end on: the last but one, then no more", 4, exact(3, 5, 8), 9, ranks([3]int{3, 1, 0}, [3]int{5, 1, 0}, [3]int{9, 2, 0})},
		{"not the first, nor the last", 1, exact(3, 5), 4, ranks([3]int{3, 1, 0}, [3]int{5, 2, 0})},
		{"not the first of two", 1, exact(3), 4, exact(3, 4)},
		{"the former first may go", 1, exact(3, 5), 2, ranks([3]int{2, 1, 0}, [3]int{5, 2, 0})},
		{"the former last stays", 100, exact(3, 5), 9, exact(3, 5, 9)},
		{"the former last may go", 1, exact(3, 5), 9, ranks([3]int{3, 1, 0}, [3]int{9, 2, 0})},
		{"with the new total only", 5, exact(1, 2, 3, 4), 5, ranks([3]int{1, 1, 0}, [3]int{3, 2, 0}, [3]int{5, 2, 0})},
		{"the bound rounded down", 5, exact(1, 2, 3), 4, exact(1, 2, 3, 4)},
		{"the largest total but 1", 2, ranks([3]int{1, most - 1, 0}), 2, ranks([3]int{1, most - 1, 0}, [3]int{2, 1, 0})},
		{"399 entries", 100, slices.Repeat(ranks([3]int{1, 2, 13}), 399), 0, append(exact(0), slices.Repeat(ranks([3]int{1, 2, 13}), 399)...)},
		{"of the spare capacity nothing", 4, exact(3, 5, 4)[:2], 6, exact(3, 5, 6)},
	} {
		got, errno := quant.Add(c.parts, c.l, c.x)
		check(t, c.what, got, errno, c.want)
	}
}

// TestAddLarge: at the largest numbers nothing overflows, and the More of a new entry is what it is, even above that of a valid one.
func TestAddLarge(t *testing.T) {
	total := most - 3
	l := ranks([3]int{1, 1, 0}, [3]int{2, total - 3, most}, [3]int{3, 2, most})
	want := ranks([3]int{1, 1, 0}, [3]int{1, 1, total + most - 4}, [3]int{3, total - 1, most})
	got, errno := quant.Add(1, l, 1)
	check(t, "the new entry stays", got, errno, want)

	got, errno = quant.Add(1, ranks([3]int{1, 1, 0}, [3]int{5, most - 2, most - 1}), 3)
	check(t, "the new entry is compressed", got, errno, ranks([3]int{1, 1, 0}, [3]int{5, most - 1, most - 1}))
}

func TestAddRefuses(t *testing.T) {
	for _, c := range invalid() {
		for _, x := range []int{math.MinInt, 0, 1, 4, math.MaxInt} {
			if got, errno := quant.Add(c.parts, c.l, x); len(got) != 0 || errno != api.ErrForm {
				t.Errorf("%s, parts %d, x %d: got %v and error %d, want error %d", c.what, c.parts, x, got, errno, api.ErrForm)
			}
		}
	}
	for _, c := range []summary{
		{"400 entries", 100, exact(pooltest.Span(1, 401)...)},
		{"400 entries that could be compressed", 1, exact(pooltest.Span(1, 401)...)},
		{"400 equal entries", 4, slices.Repeat(exact(5), 400)},
		{"400 entries of the bound", 100, slices.Repeat(ranks([3]int{1, 3, 21}), 400)},
		{"the largest total", 2, ranks([3]int{1, most, 0})},
		{"the largest total, of two entries", 1, ranks([3]int{1, 1, 0}, [3]int{5, most - 1, 0})},
		{"the largest total, of 400 entries", 1, append(exact(pooltest.Span(1, 400)...), ranks([3]int{400, most - 399, 0})...)},
	} {
		for _, x := range []int{math.MinInt, 0, 1, 5, 401, math.MaxInt} {
			if got, errno := quant.Add(c.parts, c.l, x); len(got) != 0 || errno != api.ErrFull {
				t.Errorf("%s, x %d: got %v and error %d, want error %d", c.what, x, got, errno, api.ErrFull)
			}
		}
	}
}

func TestFind(t *testing.T) {
	vague := ranks([3]int{10, 1, 0}, [3]int{20, 1, 4}, [3]int{30, 3, 0}, [3]int{40, 2, 0})
	for _, c := range []struct {
		what  string
		parts int
		l     []api.Rank
		place int
		want  int
	}{
		{"example", 4, exact(3, 5), 1, 3},
		{"the last", 4, exact(3, 5), 2, 5},
		{"the only one", 100, exact(7), 1, 7},
		{"the only one of many elements", 1, ranks([3]int{7, 9, 4}), 1, 7},
		{"negative numbers", 4, exact(-5, -3, -3, 0), 2, -3},
		{"the least integer", 4, exact(math.MinInt, 0), 1, math.MinInt},
		{"the largest integer", 4, exact(0, math.MaxInt), 2, math.MaxInt},
		{"closer to the one before", 2, ranks([3]int{1, 2, 0}, [3]int{2, 3, 0}), 3, 1},
		{"closer to the one after", 2, ranks([3]int{1, 2, 0}, [3]int{2, 3, 0}), 4, 2},
		{"as close to two: the first", 2, ranks([3]int{1, 2, 0}, [3]int{2, 4, 0}), 4, 1},
		{"in front of the first position", 2, ranks([3]int{1, 3, 0}, [3]int{2, 3, 0}), 1, 1},
		{"More makes it less close: 1", 2, vague, 1, 10},
		{"More makes it less close: 2", 2, vague, 2, 10},
		{"More makes it less close: 3", 2, vague, 3, 10},
		{"More makes it less close: 4", 2, vague, 4, 30},
		{"More makes it less close: 5", 2, vague, 5, 30},
		{"More makes it less close: 6", 2, vague, 6, 30},
		{"More makes it less close: 7", 2, vague, 7, 40},
		{"in the middle of its position, and the first", 1, ranks([3]int{10, 1, 4}, [3]int{20, 2, 0}, [3]int{30, 2, 0}), 3, 20},
		{"as far below as above", 1, ranks([3]int{10, 1, 2}, [3]int{20, 3, 0}), 2, 10},
		{"as close by More as by place", 1, ranks([3]int{10, 1, 2}, [3]int{20, 2, 0}), 2, 10},
		{"the largest place", 2, ranks([3]int{1, most / 2, 0}, [3]int{2, most / 2, 0}), most, 2},
		{"just below the middle", 2, ranks([3]int{1, most / 2, 0}, [3]int{2, most / 2, 0}), most/2 + most/4, 1},
		{"just above the middle", 2, ranks([3]int{1, most / 2, 0}, [3]int{2, most / 2, 0}), most/2 + most/4 + 1, 2},
		{"the largest More", 1, ranks([3]int{1, most, most}), 1, 1},
		{"of 400 entries", 100, exact(pooltest.Span(1001, 1401)...), 399, 1399},
		{"of the spare capacity nothing", 1, ranks([3]int{10, 1, 0}, [3]int{20, 3, 4}, [3]int{30, 1, 0})[:2], 4, 10},
	} {
		if got, errno := quant.Find(c.parts, c.l, c.place); got != c.want || errno != api.OK {
			t.Errorf("%s: got %d and error %d, want %d", c.what, got, errno, c.want)
		}
	}
}

func TestFindRefuses(t *testing.T) {
	for _, c := range invalid() {
		for _, place := range []int{math.MinInt, -1, 0, 1, 2, 1000, math.MaxInt} {
			if got, errno := quant.Find(c.parts, c.l, place); got != 0 || errno != api.ErrForm {
				t.Errorf("%s, parts %d, place %d: got %d and error %d, want error %d", c.what, c.parts, place, got, errno, api.ErrForm)
			}
		}
	}
	for _, c := range valid() {
		total := quant.Count(c.l)
		for _, place := range []int{math.MinInt, math.MinInt + 1, -1, 0, total + 1, total + 2, most + 1, math.MaxInt} {
			if got, errno := quant.Find(c.parts, c.l, place); got != 0 || errno != api.ErrNone {
				t.Errorf("%s, place %d of %d: got %d and error %d, want error %d", c.what, place, total, got, errno, api.ErrNone)
			}
		}
		for _, place := range []int{1, total} {
			if _, errno := quant.Find(c.parts, c.l, place); total > 0 && errno != api.OK {
				t.Errorf("%s, place %d of %d: got error %d", c.what, place, total, errno)
			}
		}
	}
}

// rising returns a large number, and then n numbers below it that rise: for the most parts it takes the fewest to fill a summary of all orders that were tried.
func rising(n int) []int {
	return append([]int{1000000}, pooltest.Span(1, n+1)...)
}

// TestAll: the larger values come from a version in another language.
func TestAll(t *testing.T) {
	for _, c := range []struct {
		what  string
		parts int
		xs    []int
		want  []api.Rank
	}{
		{"none", 1, nil, nil},
		{"none, not nil", 100, []int{}, nil},
		{"one", 4, []int{3}, exact(3)},
		{"two", 4, []int{5, 3}, exact(3, 5)},
		{"in order", 4, []int{1, 2, 3}, exact(1, 2, 3)},
		{"backwards", 4, []int{3, 2, 1}, exact(1, 2, 3)},
		{"equal ones", 4, []int{7, 7, 7}, exact(7, 7, 7)},
		{"the first that are compressed", 4, []int{1, 2, 3, 4}, ranks([3]int{1, 1, 0}, [3]int{2, 1, 0}, [3]int{4, 2, 0})},
		{"the least parts", 1, []int{4, 2, 9, 5, 1}, ranks([3]int{1, 1, 0}, [3]int{9, 4, 0})},
		{"the least and the largest integer", 2, []int{0, math.MaxInt, 5, math.MinInt}, ranks([3]int{math.MinInt, 1, 0}, [3]int{math.MaxInt, 3, 0})},
		{"the most parts", 100, pooltest.Span(0, 99), exact(pooltest.Span(0, 99)...)},
		{"20 in order", 4, pooltest.Span(1, 21), ranks([3]int{1, 1, 0}, [3]int{8, 7, 0}, [3]int{16, 8, 0}, [3]int{20, 4, 0})},
		{"100 in no order", 4, weighttest.Scattered(15, 100, 1000), ranks([3]int{15, 1, 0}, [3]int{362, 40, 0}, [3]int{647, 24, 10}, [3]int{975, 35, 0})},
		{"200 in no order", 10, weighttest.Scattered(16, 200, 10000), ranks([3]int{34, 1, 0}, [3]int{1612, 36, 3}, [3]int{2881, 27, 0}, [3]int{4754, 34, 0}, [3]int{6401, 32, 0}, [3]int{8113, 33, 0}, [3]int{9917, 37, 0})},
		{"5000 in no order", 3, weighttest.Scattered(17, 5000, 100000), ranks([3]int{9, 1, 0}, [3]int{39815, 1976, 1}, [3]int{99961, 3023, 0})},
		{"of the spare capacity nothing", 4, []int{5, 3, 4}[:2], exact(3, 5)},
	} {
		got, errno := quant.All(c.parts, c.xs)
		check(t, c.what, got, errno, c.want)
	}
}

func TestAllRefuses(t *testing.T) {
	for _, parts := range outside {
		for _, xs := range [][]int{nil, {}, {1}, {5, 3, 5}, pooltest.Span(0, 402), rising(14000)} {
			if got, errno := quant.All(parts, xs); len(got) != 0 || errno != api.ErrRange {
				t.Errorf("parts %d, %d elements: got %v and error %d, want error %d", parts, len(xs), got, errno, api.ErrRange)
			}
		}
	}
	full, errno := quant.All(100, rising(13698))
	if len(full) != api.MaxOps || quant.Count(full) != 13699 || errno != api.OK {
		t.Errorf("just full: got %d entries for %d elements and error %d, want 400 for 13699", len(full), quant.Count(full), errno)
	}
	for _, xs := range [][]int{rising(13699), rising(13700), append(rising(13698), 5), append(rising(13698), 2000000), append(rising(13698), -1)} {
		if got, errno := quant.All(100, xs); len(got) != 0 || errno != api.ErrFull {
			t.Errorf("%d elements: got %d entries and error %d, want error %d", len(xs), len(got), errno, api.ErrFull)
		}
	}
	if got, errno := quant.All(99, rising(13699)); len(got) == 0 || errno != api.OK {
		t.Errorf("fewer parts: got %d entries and error %d", len(got), errno)
	}
}

// modelRight goes through what a valid summary is, a clause at a time.
func modelRight(parts int, l []api.Rank) bool {
	right := parts >= 1 && parts <= 100 && len(l) <= 400
	total := 0
	for i, e := range l {
		total += e.Gap
		right = right && e.Gap >= 1 && e.More >= 0 && (i == 0 || l[i-1].N <= e.N)
	}
	for _, e := range l {
		right = right && e.Gap+e.More <= max(1, 2*total/parts)
	}
	return right
}

// modelAdd puts a new summary together, from the last entry to the first, for a valid one with room.
func modelAdd(parts int, l []api.Rank, x int) []api.Rank {
	var before, after []api.Rank
	for _, e := range l {
		if e.N <= x {
			before = append(before, e)
		} else {
			after = append(after, e)
		}
	}
	added := api.Rank{N: x, Gap: 1}
	if len(before) > 0 && len(after) > 0 {
		added.More = after[0].Gap + after[0].More - 1
	}
	all := slices.Concat(before, []api.Rank{added}, after)
	total := 0
	for _, e := range all {
		total += e.Gap
	}
	backwards := slices.Clone(all[len(all)-1:])
	for i := len(all) - 2; i >= 0; i-- {
		next := &backwards[len(backwards)-1]
		if i > 0 && all[i].Gap+next.Gap+next.More <= 2*total/parts {
			next.Gap += all[i].Gap
		} else {
			backwards = append(backwards, all[i])
		}
	}
	slices.Reverse(backwards)
	return backwards
}

// modelFind takes the first entry of the least distance, for a valid summary and a place in it.
func modelFind(l []api.Rank, place int) int {
	var distances []int
	sum := 0
	for _, e := range l {
		sum += e.Gap
		distances = append(distances, max(place-sum, sum+e.More-place))
	}
	return l[slices.Index(distances, slices.Min(distances))].N
}

// compare tells whether Add and Find of a valid summary do what the models do, for the numbers up to 3 and all places.
func compare(t *testing.T, parts int, l []api.Rank) {
	for x := 0; x <= 3; x++ {
		got, errno := quant.Add(parts, l, x)
		if want := modelAdd(parts, l, x); !slices.Equal(got, want) || errno != api.OK {
			t.Fatalf("%v, parts %d, x %d: got %v and error %d, want %v", l, parts, x, got, errno, want)
		}
		if !quant.Right(parts, got) {
			t.Fatalf("%v, parts %d, x %d: got %v, which is not valid", l, parts, x, got)
		}
	}
	for place := 1; place <= quant.Count(l); place++ {
		got, errno := quant.Find(parts, l, place)
		if want := modelFind(l, place); got != want || errno != api.OK {
			t.Fatalf("%v, parts %d, place %d: got %d and error %d, want %d", l, parts, place, got, errno, want)
		}
	}
}

// TestSmallSummaries goes through all lists of up to three entries with small numbers, valid or not.
func TestSmallSummaries(t *testing.T) {
	var entries []api.Rank
	for n := 1; n <= 2; n++ {
		for gap := 0; gap <= 4; gap++ {
			for more := -1; more <= 3; more++ {
				entries = append(entries, api.Rank{N: n, Gap: gap, More: more})
			}
		}
	}
	var every func(l []api.Rank)
	every = func(l []api.Rank) {
		for parts := 0; parts <= 6; parts++ {
			right := modelRight(parts, l)
			if got := quant.Right(parts, l); got != right {
				t.Fatalf("%v, parts %d: got %t", l, parts, got)
			}
			if right {
				compare(t, parts, l)
			}
		}
		if len(l) == 3 {
			return
		}
		for _, e := range entries {
			every(append(slices.Clone(l), e))
		}
	}
	every(nil)
}

// TestSmallStreams goes through all streams of up to six numbers up to 3, and through their summaries.
func TestSmallStreams(t *testing.T) {
	for parts := 1; parts <= 8; parts++ {
		var every func(xs []int, want []api.Rank)
		every = func(xs []int, want []api.Rank) {
			got, errno := quant.All(parts, xs)
			if !slices.Equal(got, want) || errno != api.OK {
				t.Fatalf("%v, parts %d: got %v and error %d, want %v", xs, parts, got, errno, want)
			}
			compare(t, parts, got)
			if len(xs) == 6 {
				return
			}
			for x := 1; x <= 3; x++ {
				every(append(slices.Clone(xs), x), modelAdd(parts, want, x))
			}
		}
		every(nil, nil)
	}
}

// streams returns longer streams of every kind.
func streams() [][]int {
	falling := rising(900)
	slices.Reverse(falling)
	inwards := []int{}
	for i := range 500 {
		inwards = append(inwards, i, 1000-i)
	}
	return [][]int{
		pooltest.Span(-300, 300), falling, rising(900), inwards, weighttest.Same(7, 500),
		slices.Repeat(pooltest.Span(0, 7), 80), slices.Repeat(pooltest.Span(0, 100), 7),
		weighttest.Scattered(1, 1000, 2), weighttest.Scattered(2, 1000, 30), weighttest.Scattered(3, 1000, 1<<30), weighttest.Scattered(4, 2000, 1000),
	}
}

// someParts is numbers of parts from few to the most.
var someParts = []int{1, 2, 3, 4, 5, 7, 10, 20, 33, 50, 64, 99, 100}

// TestStreams: the summary of a longer stream is the one that Add makes of its elements one after another, as the model does, and what is said of it holds.
func TestStreams(t *testing.T) {
	for _, xs := range streams() {
		for _, parts := range someParts {
			var l, want []api.Rank
			for i, x := range xs {
				want = modelAdd(parts, want, x)
				got, errno := quant.Add(parts, l, x)
				if !slices.Equal(got, want) || errno != api.OK || !quant.Right(parts, got) {
					t.Fatalf("%v.., parts %d, the first %d: got %v and error %d, want %v", xs[:9], parts, i+1, got, errno, want)
				}
				l = got
			}
			got, errno := quant.All(parts, xs)
			check(t, "all", got, errno, want)
			checkHolds(t, parts, xs, got)
		}
	}
}

// checkHolds reports what is wrong with a summary of xs as an account of them, and with what Find finds in it.
func checkHolds(t *testing.T, parts int, xs []int, l []api.Rank) {
	t.Helper()
	sorted := slices.Sorted(slices.Values(xs))
	if quant.Count(l) != len(xs) || l[0].N != sorted[0] || l[len(l)-1].N != sorted[len(xs)-1] {
		t.Errorf("%v.., parts %d: %d elements from %d to %d", xs[:9], parts, quant.Count(l), l[0].N, l[len(l)-1].N)
	}
	// places returns the first and the last place at which n is among the sorted elements.
	places := func(n int) (int, int) {
		first, _ := slices.BinarySearch(sorted, n)
		behind, _ := slices.BinarySearch(sorted, n+1)
		return first + 1, behind
	}
	sum := 0
	for _, e := range l {
		sum += e.Gap
		if first, last := places(e.N); first > last || sum > last || sum+e.More < first {
			t.Errorf("%v.., parts %d: %v is said to be at %d to %d, and is at %d to %d", xs[:9], parts, e, sum, sum+e.More, first, last)
		}
	}
	off := max(1, 2*len(xs)/parts) / 2
	for place := 1; place <= len(xs); place++ {
		n, errno := quant.Find(parts, l, place)
		if n != modelFind(l, place) || errno != api.OK {
			t.Errorf("%v.., parts %d, place %d: got %d and error %d, want %d", xs[:9], parts, place, n, errno, modelFind(l, place))
		}
		if first, last := places(n); first-place > off || place-last > off {
			t.Errorf("%v.., parts %d: for place %d got %d, which is at %d to %d", xs[:9], parts, place, n, first, last)
		}
	}
}

// TestLargeSummaries: where the Gaps are large, Add and Find do what the models do.
func TestLargeSummaries(t *testing.T) {
	for i, n := range []int{1, 2, 3, 4, 9, 50, 200, 399} {
		for _, limit := range []int{10, 1000, most / 1000} {
			gaps := weighttest.Scattered(uint64(100*i+limit), 2*n, limit)
			l := []api.Rank{}
			for j := range n {
				l = append(l, api.Rank{N: 10 * (j / 2), Gap: gaps[j] + 1, More: gaps[n+j]})
			}
			for _, parts := range someParts {
				if !modelRight(parts, l) {
					continue
				}
				for _, x := range []int{-1, 0, 1, 5, 10, 11, 5 * n, 10 * n} {
					got, errno := quant.Add(parts, l, x)
					check(t, "large gaps", got, errno, modelAdd(parts, l, x))
				}
				total := quant.Count(l)
				for _, place := range []int{1, 2, total/3 + 1, total/2 + 1, total - total/7, total} {
					got, errno := quant.Find(parts, l, place)
					if want := modelFind(l, place); got != want || errno != api.OK {
						t.Errorf("%v, parts %d, place %d: got %d and error %d, want %d", l, parts, place, got, errno, want)
					}
				}
			}
		}
	}
}

// TestArguments: no argument is changed, its spare capacity is neither read nor changed, and the results share no memory with it.
func TestArguments(t *testing.T) {
	spare := ranks([3]int{0, -5, 3}, [3]int{math.MaxInt, math.MaxInt, 9})
	for _, c := range valid() {
		if len(c.l) >= api.MaxOps || quant.Count(c.l) == most {
			continue
		}
		whole := append(slices.Clone(c.l), spare...)
		kept := slices.Clone(whole)
		l := whole[:len(c.l)]
		for _, x := range []int{math.MinInt, 0, 3, 4, math.MaxInt} {
			got, errno := quant.Add(c.parts, l, x)
			want := modelAdd(c.parts, c.l, x)
			check(t, c.what, got, errno, want)
			if !slices.Equal(whole, kept) {
				t.Errorf("%s: Add changed its argument to %v", c.what, whole)
			}
			again, _ := quant.Add(c.parts, l, x)
			got = got[:cap(got)]
			clear(got)
			if !slices.Equal(whole, kept) || !slices.Equal(again, want) {
				t.Errorf("%s: the result of Add shares its memory", c.what)
			}
		}
		quant.Right(c.parts, l)
		quant.Count(l)
		quant.Find(c.parts, l, 1)
		if !slices.Equal(whole, kept) {
			t.Errorf("%s: the argument was changed to %v", c.what, whole)
		}
	}
	whole := []int{5, 3, 9, 4, 1, -7, 12}
	kept := slices.Clone(whole)
	got, errno := quant.All(3, whole[:5])
	want, _ := quant.All(3, kept[:5:5])
	check(t, "all", got, errno, want)
	clear(got)
	if again, _ := quant.All(3, whole[:5]); !slices.Equal(whole, kept) || !slices.Equal(again, want) {
		t.Errorf("All changed its argument to %v, or its results share memory", whole)
	}
}
