package join_test

import (
	"fmt"
	"math"
	"math/bits"
	"slices"
	"testing"

	"lotdrawer/api"
	"lotdrawer/combo"
	"lotdrawer/join"
	"lotdrawer/pool"
	"lotdrawer/pooltest"
)

// Short names for the tables.
var (
	of   = pooltest.Of
	span = pooltest.Span
)

// check reports a result that isn't the one expected, or that isn't valid although there is no error.
func check(t *testing.T, what string, got api.Pool, errno api.Errno, want api.Pool, wantErrno api.Errno) {
	t.Helper()
	if !pooltest.Equal(got, want) || errno != wantErrno {
		t.Errorf("%s: got %v and error %d, want %v and error %d", what, got, errno, want, wantErrno)
	}
	if errno == api.OK && !pool.Right(got) {
		t.Errorf("%s: got %v, which isn't valid", what, got)
	}
}

func TestPools(t *testing.T) {
	a, b := of(3, 5, 10, 11, 12), of(3, 4, 20, 21, 22)
	for _, c := range []struct {
		what       string
		a, b       api.Pool
		which, who []int
		want       api.Pool
	}{
		{"all of the first", a, b, []int{0, 0, 0}, []int{0, 0, 0}, of(3, 9, 10, 11, 12)},
		{"all of the second", a, b, []int{8, 7, 6}, []int{0, 0, 0}, of(3, 9, 20, 21, 22)},
		{"in the order of their selection", a, b, []int{0, 0, 0}, []int{2, 1, 0}, of(3, 9, 12, 11, 10)},
		{"an index counts what is left", a, b, []int{0, 0, 0}, []int{1, 1, 0}, of(3, 9, 11, 12, 10)},
		{"each has indices of its own", a, b, []int{0, 7, 0}, []int{0, 2, 1}, of(3, 9, 10, 22, 12)},
		{"the last of the first stream", a, b, []int{4, 3, 2}, []int{0, 0, 0}, of(3, 9, 10, 11, 12)},
		{"the first of the second stream", a, b, []int{5, 5, 5}, []int{0, 0, 0}, of(3, 9, 20, 21, 22)},
		{"the first stream has one less", a, b, []int{4, 4, 4}, []int{0, 0, 0}, of(3, 9, 10, 20, 21)},
		{"the first stream has as many as before", a, b, []int{5, 4, 4}, []int{0, 0, 0}, of(3, 9, 20, 10, 21)},
		{"the other way round", b, a, []int{4, 3, 3}, []int{0, 0, 0}, of(3, 9, 10, 20, 11)},
		{"choices that aren't needed", a, b, []int{0, 0, 0, 0, 8}, []int{0, 0, 0, 0}, of(3, 9, 10, 11, 12)},
		{"invalid choices that aren't needed", a, b, []int{0, 0, 0, -1, 99}, []int{0, 0, 0, 99, -1}, of(3, 9, 10, 11, 12)},
		{"both empty", of(2, 0), of(2, 0), nil, nil, of(2, 0)},
		{"both empty, not nil", api.Pool{Room: 2, Has: []int{}}, of(2, 0), []int{}, []int{}, of(2, 0)},
		{"both empty, invalid choices", of(2, 0), of(2, 0), []int{-1}, []int{5}, of(2, 0)},
		{"the first empty", of(3, 0), b, []int{0, 2, 1}, []int{0, 1, 0}, of(3, 4, 20, 22, 21)},
		{"the second empty", a, of(3, 0), []int{4, 3, 2}, []int{2, 0, 0}, of(3, 5, 12, 10, 11)},
		{"not full", of(5, 2, 7, 8), of(5, 1, 9), []int{2, 0, 0}, []int{0, 1, 0}, of(5, 3, 9, 8, 7)},
		{"just full", of(3, 2, 7, 8), of(3, 1, 9), []int{0, 1, 0}, []int{0, 0, 0}, of(3, 3, 7, 9, 8)},
		{"more than full", of(3, 2, 7, 8), of(3, 2, 9, 9), []int{3, 2, 1}, []int{1, 0, 1}, of(3, 4, 9, 9, 8)},
		{"room for one, the first", of(1, 3, 7), of(1, 2, 9), []int{2}, []int{0}, of(1, 5, 7)},
		{"room for one, the second", of(1, 3, 7), of(1, 2, 9), []int{3}, []int{0}, of(1, 5, 9)},
		{"the same twice", of(2, 2, 7, 8), of(2, 2, 7, 8), []int{0, 2}, []int{0, 0}, of(2, 4, 7, 7)},
		{"largest and least", of(2, 1, math.MinInt), of(2, 1, math.MaxInt), []int{1, 0}, []int{0, 0}, of(2, 2, math.MaxInt, math.MinInt)},
		{"400 of each", of(400, 400, span(0, 400)...), of(400, 400, span(400, 800)...),
			make([]int, 400), make([]int, 400), of(400, 800, span(0, 400)...)},
		{"200 of each full 400", of(400, 200, span(0, 200)...), of(400, 200, span(200, 400)...),
			make([]int, 400), make([]int, 400), of(400, 400, span(0, 400)...)},
		{"most came", of(1, api.MaxCount-1, 7), of(1, 1, 9), []int{api.MaxCount - 1}, []int{0}, of(1, api.MaxCount, 9)},
		{"most came, the last of the first", of(1, api.MaxCount-1, 7), of(1, 1, 9), []int{api.MaxCount - 2}, []int{0}, of(1, api.MaxCount, 7)},
		{"most came to one", of(1, 0), of(1, api.MaxCount, 9), []int{0}, []int{0}, of(1, api.MaxCount, 9)},
		{"half of the most to each", of(1, api.MaxCount/2, 7), of(1, api.MaxCount/2, 9), []int{api.MaxCount / 2}, []int{0}, of(1, api.MaxCount, 9)},
	} {
		got, errno := join.Pools(c.a, c.b, c.which, c.who)
		check(t, c.what, got, errno, c.want, api.OK)
	}
}

func TestPoolsErrors(t *testing.T) {
	a, b := of(2, 3, 10, 11), of(2, 3, 20, 21)
	zeros := make([]int, 800)
	for _, c := range []struct {
		what       string
		a, b       api.Pool
		which, who []int
		errno      api.Errno
	}{
		{"more room in the first", of(3, 2, 7, 8), of(2, 2, 9, 9), zeros, zeros, api.ErrForm},
		{"more room in the second", of(2, 2, 7, 8), of(3, 2, 9, 9), zeros, zeros, api.ErrForm},
		{"different room, both empty", of(2, 0), of(1, 0), nil, nil, api.ErrForm},
		{"different room before ErrFull", of(2, api.MaxCount, 7, 8), of(1, api.MaxCount, 9), zeros, zeros, api.ErrForm},
		{"different room before ErrEnd", of(2, 2, 7, 8), of(1, 1, 9), nil, nil, api.ErrForm},
		{"different room before ErrRange", of(2, 2, 7, 8), of(1, 1, 9), []int{-1, -1}, []int{-1, -1}, api.ErrForm},
		{"too many came", of(1, api.MaxCount, 7), of(1, 1, 9), zeros, zeros, api.ErrFull},
		{"too many came to the second", of(1, 1, 7), of(1, api.MaxCount, 9), zeros, zeros, api.ErrFull},
		{"too many came to both", of(1, api.MaxCount/2+1, 7), of(1, api.MaxCount/2, 9), zeros, zeros, api.ErrFull},
		{"most came to both", of(1, api.MaxCount, 7), of(1, api.MaxCount, 9), zeros, zeros, api.ErrFull},
		{"ErrFull before ErrEnd", of(1, api.MaxCount, 7), of(1, 1, 9), nil, nil, api.ErrFull},
		{"ErrFull before ErrRange", of(1, api.MaxCount, 7), of(1, 1, 9), []int{-1}, []int{-1}, api.ErrFull},
		{"no choices", a, b, nil, nil, api.ErrEnd},
		{"no choices of a stream", a, b, nil, zeros, api.ErrEnd},
		{"no choices of an element", a, b, zeros, []int{}, api.ErrEnd},
		{"too few choices of a stream", a, b, zeros[:1], zeros, api.ErrEnd},
		{"too few choices of an element", a, b, zeros, zeros[:1], api.ErrEnd},
		{"too few for all that came", of(9, 2, 7, 8), of(9, 1, 9), zeros[:2], zeros[:3], api.ErrEnd},
		{"too few for 400", of(400, 400, span(0, 400)...), of(400, 0), zeros, zeros[:399], api.ErrEnd},
		{"ErrEnd before ErrRange of which", a, b, []int{-1}, []int{0, 0}, api.ErrEnd},
		{"ErrEnd before ErrRange of who", a, b, []int{0, 0}, []int{-1}, api.ErrEnd},
		{"number above", a, b, []int{6, 0}, zeros, api.ErrRange},
		{"number below", a, b, []int{-1, 0}, zeros, api.ErrRange},
		{"largest number", a, b, []int{math.MaxInt, 0}, zeros, api.ErrRange},
		{"least number", a, b, []int{math.MinInt, 0}, zeros, api.ErrRange},
		{"second number above", a, b, []int{0, 5}, zeros, api.ErrRange},
		{"second number above after the second stream", a, b, []int{5, 5}, zeros, api.ErrRange},
		{"second number below", a, b, []int{0, -1}, zeros, api.ErrRange},
		{"number of all that may come", of(1, api.MaxCount-1, 7), of(1, 1, 9), []int{api.MaxCount}, zeros, api.ErrRange},
		{"number above, one element", of(1, 1, 7), of(1, 0), []int{1}, zeros, api.ErrRange},
		{"index above", a, b, zeros, []int{2, 0}, api.ErrRange},
		{"index above in the second", a, b, []int{5, 0}, []int{2, 0}, api.ErrRange},
		{"index below", a, b, zeros, []int{-1, 0}, api.ErrRange},
		{"index below in the second", a, b, []int{5, 0}, []int{-1, 0}, api.ErrRange},
		{"largest index", a, b, zeros, []int{math.MaxInt, 0}, api.ErrRange},
		{"least index", a, b, zeros, []int{math.MinInt, 0}, api.ErrRange},
		{"index of what is gone", a, b, zeros, []int{0, 1}, api.ErrRange},
		{"index of what is gone in the second", a, b, []int{5, 4}, []int{0, 1}, api.ErrRange},
		{"index below the room, above the sample", of(3, 1, 7), of(3, 3, 8, 9, 9), zeros, []int{1, 0, 0}, api.ErrRange},
		{"index of the other sample", of(3, 3, 7, 7, 7), of(3, 1, 9), []int{3, 0, 0}, []int{1, 0, 0}, api.ErrRange},
	} {
		got, errno := join.Pools(c.a, c.b, c.which, c.who)
		check(t, c.what, got, errno, api.Pool{}, c.errno)
	}
}

// TestPoolsInvalid: each of the two may be the invalid one, which precedes every other error.
func TestPoolsInvalid(t *testing.T) {
	zeros := make([]int, 800)
	for _, bad := range pooltest.Invalid() {
		for _, good := range []api.Pool{of(2, 0), of(2, 1, 9), of(2, api.MaxCount, 9, 9), of(bad.Room, 0), bad} {
			for _, choices := range [][]int{zeros, nil, {-1, -1}} {
				got, errno := join.Pools(bad, good, choices, choices)
				check(t, "the first invalid", got, errno, api.Pool{}, api.ErrForm)
				got, errno = join.Pools(good, bad, choices, choices)
				check(t, "the second invalid", got, errno, api.Pool{}, api.ErrForm)
			}
		}
	}
}

// merge is one way to merge two reservoirs: the choices, for each of them how many values it can have, and the sample that they make.
type merge struct {
	which, who, numbers, indices, sample []int
}

// with returns m and one more selection.
func (m merge) with(number, index, numbers, indices, element int) merge {
	return merge{
		slices.Concat(m.which, []int{number}),
		slices.Concat(m.who, []int{index}),
		slices.Concat(m.numbers, []int{numbers}),
		slices.Concat(m.indices, []int{indices}),
		slices.Concat(m.sample, []int{element}),
	}
}

// weight returns how likely m is, times a factor that is the same for all ways to merge two reservoirs with room for at most 4.
func (m merge) weight() int {
	weight := 1
	for _, indices := range m.indices {
		weight *= 12 / indices // 12 is a multiple of 1, 2, 3 and 4
	}
	return weight
}

// merges calls f with every way to select size elements more, as the document describes it: here a and b are what is left,
// so that Came counts the elements of a stream, and Has holds those of its sample, that m has not selected.
func merges(a, b api.Pool, size int, m merge, f func(merge)) {
	if size == 0 {
		f(m)
		return
	}
	for number := range a.Came + b.Came {
		from := b
		if number < a.Came {
			from = a
		}
		for index, element := range from.Has {
			rest := of(from.Room, from.Came-1, slices.Concat(from.Has[:index], from.Has[index+1:])...)
			next := m.with(number, index, a.Came+b.Came, len(from.Has), element)
			if number < a.Came {
				merges(rest, b, size-1, next, f)
			} else {
				merges(a, rest, size-1, next, f)
			}
		}
	}
}

// put returns l with another number at i.
func put(l []int, i, number int) []int {
	l = slices.Clone(l)
	l[i] = number
	return l
}

// checkLimits reports a choice of m that can be less than 0, or that can have more values than it should.
func checkLimits(t *testing.T, a, b api.Pool, m merge) {
	t.Helper()
	for i := range m.which {
		for _, number := range []int{-1, m.numbers[i]} {
			got, errno := join.Pools(a, b, put(m.which, i, number), m.who)
			check(t, "number out of range", got, errno, api.Pool{}, api.ErrRange)
		}
		for _, index := range []int{-1, m.indices[i]} {
			got, errno := join.Pools(a, b, m.which, put(m.who, i, index))
			check(t, "index out of range", got, errno, api.Pool{}, api.ErrRange)
		}
	}
}

// TestPoolsWithAllChoices compares every way to merge two reservoirs with what the document describes.
func TestPoolsWithAllChoices(t *testing.T) {
	for room := 1; room <= 3; room++ {
		for n := range 5 {
			for m := range 5 {
				a, b := of(room, n, span(10, 10+min(room, n))...), of(room, m, span(20, 20+min(room, m))...)
				merges(a, b, min(room, n+m), merge{}, func(way merge) {
					got, errno := join.Pools(a, b, way.which, way.who)
					check(t, fmt.Sprint(a, b, way), got, errno, of(room, n+m, way.sample...), api.OK)
					checkLimits(t, a, b, way)
				})
			}
		}
	}
}

// reservoirs returns what a stream of n elements from first on leaves in a reservoir, for all of its choices.
func reservoirs(t *testing.T, room, first, n int) []api.Pool {
	t.Helper()
	var found []api.Pool
	pooltest.Choices(span(1, n+1), func(draws []int) {
		p, errno := pool.All(room, span(first, first+n), draws)
		if errno != api.OK {
			t.Fatalf("room %d, choices %v: error %d", room, draws, errno)
		}
		found = append(found, p)
	})
	return found
}

// TestUniform counts over all choices, of both reservoirs and of their merging: every sample of the union is as likely as every other.
func TestUniform(t *testing.T) {
	for room := 1; room <= 4; room++ {
		for n := range 4 {
			for m := range 4 {
				weights := map[string]int{}
				size := min(room, n+m)
				for _, a := range reservoirs(t, room, 10, n) {
					for _, b := range reservoirs(t, room, 20, m) {
						merges(a, b, size, merge{}, func(way merge) {
							got, errno := join.Pools(a, b, way.which, way.who)
							if errno != api.OK {
								t.Fatalf("%v and %v with %v: error %d", a, b, way, errno)
							}
							weights[pooltest.Sample(got)] += way.weight()
						})
					}
				}
				if subsets, errno := combo.Of(n+m, size); errno != api.OK || !pooltest.Uniform(weights, subsets) {
					t.Errorf("room %d, streams of %d and %d: got the samples %v", room, n, m, weights)
				}
			}
		}
	}
}

// TestCountsOfPools: of the lists of choices of a stream, Count times the number of orders select so many elements from the first.
func TestCountsOfPools(t *testing.T) {
	const n, m, room = 5, 4, 4
	a, b := of(room, n, 1, 1, 1, 1), of(room, m, 0, 0, 0, 0)
	var counts [room + 1]int
	for number := range 9 * 8 * 7 * 6 {
		which := []int{number % 9, number / 9 % 8, number / 72 % 7, number / 504}
		got, errno := join.Pools(a, b, which, make([]int, room))
		if errno != api.OK {
			t.Fatalf("choices %v: error %d", which, errno)
		}
		first := 0
		for _, element := range got.Has {
			first += element
		}
		counts[first]++
	}
	for first, count := range counts {
		ways, errno := join.Count(n, m, room, first)
		if errno != api.OK || count != ways*24 {
			t.Errorf("%d from the first: %d lists of choices, but %d ways, error %d", first, count, ways, errno)
		}
	}
}

func TestCount(t *testing.T) {
	for _, c := range []struct{ n, m, k, first, want int }{
		{2, 3, 2, 1, 6}, // the document's example
		{2, 3, 2, 0, 3},
		{2, 3, 2, 2, 1},
		{3, 2, 2, 0, 1},
		{2, 3, 3, 1, 6},
		{2, 3, 5, 2, 1},
		{0, 0, 0, 0, 1},
		{0, 0, 1, 0, 0},
		{0, 0, 1, 1, 0},
		{0, 3, 2, 0, 3},
		{0, 3, 2, 1, 0},
		{3, 0, 2, 2, 3},
		{3, 0, 2, 1, 0},
		{2, 3, 4, 3, 0}, // more than the first set has
		{2, 3, 4, 0, 0}, // more than the second set has
		{2, 3, 6, 3, 0},
		{25, 25, 0, 0, 1},
		{25, 25, 1, 0, 25},
		{25, 25, 1, 1, 25},
		{25, 25, 25, 12, 5200300 * 5200300},
		{25, 25, 25, 13, 5200300 * 5200300},
		{25, 25, 24, 12, 5200300 * 5200300},
		{25, 25, 50, 25, 1},
		{25, 25, 50, 26, 0},
		{25, 25, 51, 25, 0},
		{25, 0, 12, 12, 5200300},
		{0, 25, 12, 0, 5200300},
		{25, 25, math.MaxInt, 0, 0},
		{25, 25, math.MaxInt, 12, 0},
		{25, 25, math.MaxInt, math.MaxInt, 0},
		{0, 0, math.MaxInt, math.MaxInt, 0},
	} {
		if got, errno := join.Count(c.n, c.m, c.k, c.first); got != c.want || errno != api.OK {
			t.Errorf("%v: got %d and error %d", c, got, errno)
		}
	}
}

func TestCountErrors(t *testing.T) {
	for _, c := range []struct{ n, m, k, first int }{
		{-1, 3, 2, 1},
		{2, -1, 2, 1},
		{2, 3, -1, 0},
		{2, 3, -1, -1},
		{2, 3, -1, -2},
		{2, 3, 2, -1},
		{0, 0, 0, -1},
		{-1, -1, -1, -1},
		{math.MinInt, 3, 2, 1},
		{2, math.MinInt, 2, 1},
		{2, 3, math.MinInt, math.MinInt},
		{2, 3, 2, math.MinInt},
		{2, 3, math.MaxInt, math.MinInt},
		{26, 3, 2, 1},
		{2, 26, 2, 1},
		{26, 26, 0, 0},
		{26, 0, 27, 27},
		{60, 3, 2, 1},
		{61, 3, 2, 1},
		{math.MaxInt, 3, 2, 1},
		{2, math.MaxInt, 2, 1},
		{2, 3, 2, 3},
		{2, 3, 0, 1},
		{25, 25, 12, 13},
		{2, 3, 2, math.MaxInt},
	} {
		if got, errno := join.Count(c.n, c.m, c.k, c.first); got != 0 || errno != api.ErrRange {
			t.Errorf("%v: got %d and error %d", c, got, errno)
		}
	}
}

// TestCountIsThatOfSubsets compares Count with the subsets of two small sets, counted one by one.
func TestCountIsThatOfSubsets(t *testing.T) {
	for n := range 6 {
		for m := range 6 {
			counts := map[[2]int]int{} // by the size of the subset, and by how many of it are from the first set
			for set := range 1 << (n + m) {
				first := bits.OnesCount(uint(set % (1 << n)))
				counts[[2]int{bits.OnesCount(uint(set)), first}]++
			}
			for k := range n + m + 3 {
				for first := range k + 1 {
					want := counts[[2]int{k, first}]
					if got, errno := join.Count(n, m, k, first); got != want || errno != api.OK {
						t.Errorf("%d of %d and %d, %d from the first: got %d and error %d, want %d", k, n, m, first, got, errno, want)
					}
				}
			}
		}
	}
}

// TestCountsOfUnion: the counts of all ways to split a subset of the union add up to that of all its subsets of one size.
func TestCountsOfUnion(t *testing.T) {
	for n := range 26 {
		for m := range 26 {
			for k := range n + m + 1 {
				sum := 0
				for first := range k + 1 {
					count, errno := join.Count(n, m, k, first)
					if errno != api.OK {
						t.Fatalf("%d of %d and %d, %d from the first: error %d", k, n, m, first, errno)
					}
					sum += count
				}
				if want, _ := combo.Of(n+m, k); sum != want {
					t.Errorf("%d of %d and %d: got %d in all, want %d", k, n, m, sum, want)
				}
			}
		}
	}
}

// TestArguments: no argument is changed, its spare capacity is neither read nor changed, and the result shares no memory with it.
func TestArguments(t *testing.T) {
	for _, c := range []struct {
		a, b       api.Pool
		which, who []int
	}{
		{of(2, 0), of(2, 0), nil, nil},
		{of(2, 3, 7, 8), of(2, 0), []int{0, 0}, []int{0, 0}},
		{of(2, 0), of(2, 3, 7, 8), []int{0, 0}, []int{0, 0}},
		{of(3, 4, 5, 6, 7), of(3, 5, 8, 9, 10), []int{0, 7, 0}, []int{0, 1, 1}},
		{of(3, 1, 5), of(3, 1, 8), []int{1, 0}, []int{0, 0}},
		{of(3, 4, 5, 6, 7), of(3, 5, 8, 9, 10), []int{0, 7, 99}, []int{0, 1, 1}}, // an error after two selections
		{of(3, 4, 5, 6, 7), of(3, 5, 8, 9, 10), []int{0, 7, 0}, []int{0, 1, 9}},
		{of(3, 4, 5, 6, 7), of(3, 5, 8, 9, 10), []int{0, 7}, []int{0, 1}}, // with spare capacity there would be enough
		{of(2, 3, 7), of(2, 1, 8), []int{0, 0}, []int{0, 0}},              // with its spare capacity it would be valid
	} {
		alone, wantErrno := join.Pools(c.a, c.b, c.which, c.who)
		want := of(alone.Room, alone.Came, slices.Clone(alone.Has)...)
		spare := []int{1, 0, 1}
		plain := [4][]int{c.a.Has, c.b.Has, c.which, c.who}
		var given [4][]int
		for i, l := range plain {
			given[i] = slices.Concat(l, spare)
		}
		short := func(i int) []int { return given[i][:len(plain[i])] }
		a, b := of(c.a.Room, c.a.Came, short(0)...), of(c.b.Room, c.b.Came, short(1)...)
		got, errno := join.Pools(a, b, short(2), short(3))
		check(t, fmt.Sprint(c), got, errno, want, wantErrno)
		for i := range got.Has[:cap(got.Has)] {
			got.Has[:cap(got.Has)][i] = -99
		}
		for i, l := range plain {
			if !slices.Equal(given[i], slices.Concat(l, spare)) {
				t.Errorf("%v: argument %d changed, or shared with the result", c, i)
			}
		}
	}
}

// TestSharedArguments: the same memory may be in several arguments.
func TestSharedArguments(t *testing.T) {
	l := []int{0, 1, 0}
	p := of(3, 3, l...)
	got, errno := join.Pools(p, p, l, l)
	check(t, "all the same", got, errno, of(3, 6, 0, 0, 1), api.OK)
	whole := []int{4, 5, 6, 7}
	got, errno = join.Pools(of(3, 3, whole[:3]...), of(3, 3, whole[1:]...), []int{0, 4, 1}, []int{0, 0, 1})
	check(t, "overlapping", got, errno, of(3, 6, 4, 5, 6), api.OK)
}
