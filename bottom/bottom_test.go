package bottom_test

import (
	"fmt"
	"math"
	"math/bits"
	"slices"
	"testing"

	"lotdrawer/api"
	"lotdrawer/bottom"
)

// last is the largest rank, and middle the least one that has the highest bit.
const (
	last   = math.MaxUint64
	middle = 1 << 63
)

// seeds is seeds with few and with many bits.
var seeds = []uint64{0, 1, 2, 0x9e3779b97f4a7c15, 1 << 63, math.MaxUint64}

// outside is numbers that room may not be.
var outside = []int{0, -1, math.MinInt, 401, 402, 1<<32 + 1, math.MaxInt}

// ranked returns the elements that have these ranks.
func ranked(seed uint64, ranks ...uint64) []uint64 {
	var l []uint64
	for _, rank := range ranks {
		l = append(l, bottom.Unmix(rank)^seed)
	}
	return l
}

// span returns the numbers from low to high-1 in order.
func span(low, high uint64) []uint64 {
	var l []uint64
	for number := low; number < high; number++ {
		l = append(l, number)
	}
	return l
}

// scattered returns n integers without a pattern.
func scattered(seed uint64, n int) []uint64 {
	l := make([]uint64, n)
	for i := range l {
		seed = seed*6364136223846793005 + 1442695040888963407
		l[i] = seed ^ bits.Reverse64(seed)
	}
	return l
}

// TestMix compares with outputs of SplitMix64 that are in print, for its seeds 0 and 1234567, and with values worked out apart from the program.
func TestMix(t *testing.T) {
	for _, c := range []struct{ x, want uint64 }{
		{0, 0},
		{0x9e3779b97f4a7c15, 0xe220a8397b1dcdaf},
		{0x3c6ef372fe94f82a, 0x6e789e6aa1b965f4},
		{0xdaa66d2c7ddf743f, 0x06c45d188009454f},
		{0x9e3779b97f5d529c, 6457827717110365317},
		{0x3c6ef372fea7ceb1, 3203168211198807973},
		{0xdaa66d2c7df24ac6, 9817491932198370423},
		{1, 0x5692161d100b05e5},
		{2, 0xdbd238973a2b148a},
		{1 << 30, 0x2ba0091cc9e3ceff},
		{1 << 63, 0x25c26ea579cea98a},
		{math.MaxUint64, 0xb4d055fcf2cbbd7b},
	} {
		if got := bottom.Mix(c.x); got != c.want {
			t.Errorf("Mix of %#x: got %#x, want %#x", c.x, got, c.want)
		}
		if got := bottom.Unmix(c.want); got != c.x {
			t.Errorf("Unmix of %#x: got %#x, want %#x", c.want, got, c.x)
		}
	}
}

// TestUnmixInverts: with integers of every kind, Unmix takes back what Mix does, and Mix what Unmix does.
func TestUnmixInverts(t *testing.T) {
	l := append(span(0, 1000), scattered(5, 10000)...)
	for i := range 64 {
		l = append(l, 1<<i, ^uint64(1<<i), 1<<i-1, math.MaxUint64<<i)
	}
	for _, x := range l {
		if got := bottom.Unmix(bottom.Mix(x)); got != x {
			t.Errorf("Unmix of Mix of %#x: got %#x", x, got)
		}
		if got := bottom.Mix(bottom.Unmix(x)); got != x {
			t.Errorf("Mix of Unmix of %#x: got %#x", x, got)
		}
	}
}

// sketch is a list for a room, given by the ranks of its elements.
type sketch struct {
	what  string
	room  int
	ranks []uint64
}

// valid returns sketches that are valid.
func valid() []sketch {
	return []sketch{
		{"empty, the least room", 1, nil},
		{"empty, not nil", 2, []uint64{}},
		{"empty, the largest room", 400, nil},
		{"the least rank", 1, []uint64{0}},
		{"the largest rank", 1, []uint64{last}},
		{"less than there is room for", 3, []uint64{3, 5}},
		{"as many as there is room for", 3, []uint64{3, 5, 6}},
		{"the least ranks", 2, []uint64{0, 1}},
		{"the largest ranks", 2, []uint64{last - 1, last}},
		{"the least rank and the largest", 2, []uint64{0, last}},
		{"around the middle", 3, []uint64{middle - 1, middle, middle + 1}},
		{"the lower words the other way round", 2, []uint64{5, 1<<32 + 4}},
		{"close and large", 2, []uint64{1<<62 + 1, 1<<62 + 2}},
		{"399 elements, room for 400", 400, span(1, 400)},
		{"400 elements", 400, span(1, 401)},
		{"of the spare capacity nothing", 1, []uint64{3, 2}[:1]},
	}
}

// invalid returns sketches that break one rule each, or several.
func invalid() []sketch {
	l := []sketch{
		{"too many for room", 1, []uint64{3, 5}},
		{"too many for a larger room", 3, []uint64{3, 5, 6, 9}},
		{"401 elements", 400, span(1, 402)},
		{"401 elements, room for them", 401, span(1, 402)},
		{"equal ranks", 2, []uint64{3, 3}},
		{"equal ranks of 0", 2, []uint64{0, 0}},
		{"equal ranks at the end", 4, []uint64{1, 3, 5, 5}},
		{"equal ranks, not side by side", 3, []uint64{3, 5, 3}},
		{"decreasing", 2, []uint64{5, 3}},
		{"decreasing at the start", 3, []uint64{5, 3, 6}},
		{"decreasing at the end", 3, []uint64{3, 6, 5}},
		{"decreasing to 0", 2, []uint64{last, 0}},
		{"decreasing over the middle", 2, []uint64{middle, middle - 1}},
		{"decreasing, close and large", 2, []uint64{1<<62 + 2, 1<<62 + 1}},
		{"decreasing at the end of 400", 400, append(span(2, 401), 1)},
		{"decreasing, and too many for room", 1, []uint64{5, 3}},
	}
	for _, room := range outside {
		l = append(l, sketch{"room out of range", room, nil}, sketch{"room out of range for one", room, []uint64{3}}, sketch{"room out of range for two", room, []uint64{3, 5}})
	}
	return l
}

func TestRight(t *testing.T) {
	for _, seed := range seeds {
		for _, c := range valid() {
			if !bottom.Right(seed, c.room, ranked(seed, c.ranks...)) {
				t.Errorf("%s, room %d, seed %#x: got false", c.what, c.room, seed)
			}
		}
		for _, c := range invalid() {
			if bottom.Right(seed, c.room, ranked(seed, c.ranks...)) {
				t.Errorf("%s, room %d, seed %#x: got true", c.what, c.room, seed)
			}
		}
	}
}

// TestRightGoesByRank: it is the ranks for this seed that increase, not the elements themselves, nor their ranks for another one.
func TestRightGoesByRank(t *testing.T) {
	for _, seed := range seeds {
		falling := ranked(seed, 3, 5)
		slices.Reverse(falling)
		for _, l := range [][]uint64{{1, 2}, {2, 1}, {0, last}, ranked(seed, 3, 5), falling, ranked(seed+1, 3, 5), ranked(seed^1<<63, 3, 5)} {
			want := bottom.Mix(l[0]^seed) < bottom.Mix(l[1]^seed)
			if got := bottom.Right(seed, 2, l); got != want {
				t.Errorf("%#x, seed %#x: got %t", l, seed, got)
			}
		}
	}
}

func TestJoin(t *testing.T) {
	for _, c := range []struct {
		what       string
		room       int
		a, b, want []uint64
	}{
		{"both empty", 1, nil, nil, nil},
		{"both empty, not nil", 400, []uint64{}, []uint64{}, nil},
		{"one empty", 2, []uint64{3, 5}, nil, []uint64{3, 5}},
		{"the other empty", 2, nil, []uint64{3, 5}, []uint64{3, 5}},
		{"less than there is room for", 5, []uint64{3, 5}, []uint64{4, 6}, []uint64{3, 4, 5, 6}},
		{"as many as there is room for", 4, []uint64{3, 5}, []uint64{4, 6}, []uint64{3, 4, 5, 6}},
		{"one too many for room", 3, []uint64{3, 5}, []uint64{4, 6}, []uint64{3, 4, 5}},
		{"room for one", 1, []uint64{5}, []uint64{3}, []uint64{3}},
		{"all of one", 2, []uint64{1, 2}, []uint64{3, 4}, []uint64{1, 2}},
		{"all of the other", 2, []uint64{3, 4}, []uint64{1, 2}, []uint64{1, 2}},
		{"equal", 2, []uint64{3, 5}, []uint64{3, 5}, []uint64{3, 5}},
		{"in both only once", 3, []uint64{3, 5, 7}, []uint64{3, 6, 7}, []uint64{3, 5, 6}},
		{"in both, and room for the next", 4, []uint64{3, 5, 7}, []uint64{3, 6, 7}, []uint64{3, 5, 6, 7}},
		{"the least and the largest ranks", 4, []uint64{0, last}, []uint64{middle - 1, middle}, []uint64{0, middle - 1, middle, last}},
		{"the least and the largest ranks in both", 2, []uint64{0, last}, []uint64{0, last}, []uint64{0, last}},
		{"400 of 800", 400, span(1, 401), span(201, 601), span(1, 401)},
		{"400 of 600, the other way round", 400, span(201, 601), span(1, 401), span(1, 401)},
		{"of the spare capacity nothing", 3, []uint64{3, 5, 1}[:2], []uint64{4, 6, 2}[:1], []uint64{3, 4, 5}},
	} {
		for _, seed := range seeds {
			got, errno := bottom.Join(seed, c.room, ranked(seed, c.a...), ranked(seed, c.b...))
			if !slices.Equal(got, ranked(seed, c.want...)) || errno != api.OK {
				t.Errorf("%s, seed %#x: got %#x and error %d, want the ranks %#x", c.what, seed, got, errno, c.want)
			}
		}
	}
}

// refuse calls f with sketches of which at least one is invalid.
func refuse(f func(what string, seed uint64, room int, a, b []uint64)) {
	for _, seed := range seeds {
		for _, c := range invalid() {
			l := ranked(seed, c.ranks...)
			f(c.what+": the first", seed, c.room, l, nil)
			f(c.what+": the second", seed, c.room, nil, l)
			f(c.what+": the first, the second not empty", seed, c.room, l, ranked(seed, 4))
			f(c.what+": the second, the first not empty", seed, c.room, ranked(seed, 4), l)
			f(c.what+": both", seed, c.room, l, l)
		}
	}
}

func TestJoinRefuses(t *testing.T) {
	refuse(func(what string, seed uint64, room int, a, b []uint64) {
		if got, errno := bottom.Join(seed, room, a, b); len(got) != 0 || errno != api.ErrForm {
			t.Errorf("%s, room %d, seed %#x: got %#x and error %d, want error %d", what, room, seed, got, errno, api.ErrForm)
		}
	})
}

func TestAll(t *testing.T) {
	long := slices.Concat(span(300, 1000), span(100, 700), span(50, 60))
	for _, c := range []struct {
		what    string
		room    int
		l, want []uint64
	}{
		{"none", 1, nil, nil},
		{"none, not nil", 400, []uint64{}, nil},
		{"one", 1, []uint64{3}, []uint64{3}},
		{"one of each end", 2, []uint64{last, 0}, []uint64{0, last}},
		{"in order", 3, []uint64{3, 5, 6}, []uint64{3, 5, 6}},
		{"in no order", 5, []uint64{6, 3, middle, 5}, []uint64{3, 5, 6, middle}},
		{"too many for room", 2, []uint64{6, 3, middle, 5}, []uint64{3, 5}},
		{"one too many for room", 3, []uint64{6, 3, middle, 5}, []uint64{3, 5, 6}},
		{"room for one", 1, []uint64{6, 3, middle, 5}, []uint64{3}},
		{"one element again and again", 3, []uint64{7, 7, 7, 7, 7}, []uint64{7}},
		{"duplicates take no room", 3, []uint64{3, 3, 5, 3, 5, 6, 9}, []uint64{3, 5, 6}},
		{"duplicates apart", 2, []uint64{6, 3, 5, 6, 3}, []uint64{3, 5}},
		{"the last to come ranks lowest", 2, []uint64{6, 5, 3, 1}, []uint64{1, 3}},
		{"400 elements", 400, slices.Repeat(span(1, 401), 2), span(1, 401)},
		{"more than 400 elements", 400, long, append(span(50, 60), span(100, 490)...)},
		{"more than 400 elements, room for few", 11, long, append(span(50, 60), 100)},
		{"of the spare capacity nothing", 3, []uint64{6, 5, 1}[:2], []uint64{5, 6}},
	} {
		for _, seed := range seeds {
			got, errno := bottom.All(seed, c.room, ranked(seed, c.l...))
			if !slices.Equal(got, ranked(seed, c.want...)) || errno != api.OK {
				t.Errorf("%s, seed %#x: got %#x and error %d, want the ranks %#x", c.what, seed, got, errno, c.want)
			}
		}
	}
	for _, l := range [][]uint64{nil, {}, {1}, {5, 3, 5}, span(0, 400), span(0, 402)} {
		for _, room := range outside {
			if got, errno := bottom.All(1, room, l); len(got) != 0 || errno != api.ErrRange {
				t.Errorf("room %d, %d elements: got %#x and error %d, want error %d", room, len(l), got, errno, api.ErrRange)
			}
		}
	}
}

func TestCommon(t *testing.T) {
	for _, c := range []struct {
		what          string
		room          int
		a, b          []uint64
		common, union int
	}{
		{"example, of 2 elements", 2, []uint64{3, 5}, []uint64{3, 5}, 2, 2},
		{"example, of none", 2, nil, nil, 0, 0},
		{"example, of none, not nil", 400, []uint64{}, []uint64{}, 0, 0},
		{"example, of 1 element", 400, []uint64{0}, []uint64{0}, 1, 1},
		{"example, of 400 elements", 400, span(1, 401), span(1, 401), 400, 400},
		{"one empty", 2, []uint64{3, 5}, nil, 0, 2},
		{"the other empty", 2, nil, []uint64{3, 5}, 0, 2},
		{"nothing in both", 5, []uint64{3, 5}, []uint64{4, 6}, 0, 4},
		{"nothing in both, not all in the union", 2, []uint64{3, 5}, []uint64{4, 6}, 0, 2},
		{"all of one in the other", 5, []uint64{3, 4, 5, 6}, []uint64{4, 6}, 2, 4},
		{"in both, but not in the union", 3, []uint64{3, 5, 7}, []uint64{4, 6, 7}, 0, 3},
		{"in both, and the last of the union", 3, []uint64{3, 5}, []uint64{4, 5}, 1, 3},
		{"in both, some of them in the union", 3, []uint64{3, 5, 7}, []uint64{3, 6, 7}, 1, 3},
		{"in both, all of them in the union", 4, []uint64{3, 5, 7}, []uint64{3, 6, 7}, 2, 4},
		{"the least and the largest ranks", 3, []uint64{0, last}, []uint64{0, middle, last}, 2, 3},
		{"200 of 400", 400, span(1, 401), span(201, 601), 200, 400},
		{"of the spare capacity nothing", 3, []uint64{3, 5, 7}[:2], []uint64{3, 6, 5}[:1], 1, 2},
	} {
		for _, seed := range seeds {
			common, union, errno := bottom.Common(seed, c.room, ranked(seed, c.a...), ranked(seed, c.b...))
			if common != c.common || union != c.union || errno != api.OK {
				t.Errorf("%s, seed %#x: got %d, %d and error %d, want %d, %d", c.what, seed, common, union, errno, c.common, c.union)
			}
		}
	}
	refuse(func(what string, seed uint64, room int, a, b []uint64) {
		if common, union, errno := bottom.Common(seed, room, a, b); common != 0 || union != 0 || errno != api.ErrForm {
			t.Errorf("%s, room %d, seed %#x: got %d, %d and error %d, want error %d", what, room, seed, common, union, errno, api.ErrForm)
		}
	})
}

// subset returns the members whose bits are set in mask, in their order.
func subset(members []uint64, mask int) []uint64 {
	var l []uint64
	for i, member := range members {
		if mask>>i&1 == 1 {
			l = append(l, member)
		}
	}
	return l
}

// TestAllPairs joins every two subsets of a few elements, for every room that they fit into.
func TestAllPairs(t *testing.T) {
	ranks := []uint64{0, 1, middle - 1, middle, last}
	for _, seed := range seeds[2:4] {
		members := ranked(seed, ranks...)
		for maskA := range 1 << len(ranks) {
			for maskB := range 1 << len(ranks) {
				a, b := subset(members, maskA), subset(members, maskB)
				for room := max(1, len(a), len(b)); room <= len(ranks)+1; room++ {
					want := subset(members, maskA|maskB)
					want = want[:min(room, len(want))]
					got, errno := bottom.Join(seed, room, a, b)
					if !slices.Equal(got, want) || errno != api.OK {
						t.Errorf("%#x and %#x, room %d: got %#x and error %d, want %#x", a, b, room, got, errno, want)
					}
					inBoth := 0
					for _, x := range want {
						if slices.Contains(a, x) && slices.Contains(b, x) {
							inBoth++
						}
					}
					common, union, errno := bottom.Common(seed, room, a, b)
					if common != inBoth || union != len(want) || errno != api.OK {
						t.Errorf("%#x and %#x, room %d: got %d, %d and error %d, want %d, %d", a, b, room, common, union, errno, inBoth, len(want))
					}
				}
			}
		}
	}
}

// modelAll takes the element with the smallest rank of those not yet taken, again and again.
func modelAll(seed uint64, room int, l []uint64) []uint64 {
	remaining := slices.Clone(l)
	var taken []uint64
	for len(taken) < room && len(remaining) > 0 {
		lowest := remaining[0]
		for _, x := range remaining {
			if bottom.Mix(x^seed) < bottom.Mix(lowest^seed) {
				lowest = x
			}
		}
		taken = append(taken, lowest)
		remaining = slices.DeleteFunc(remaining, func(x uint64) bool { return x == lowest })
	}
	return taken
}

// TestAllOfLongLists: the sketch is as described, valid, and the same as that joined from the sketches of two parts of the list.
func TestAllOfLongLists(t *testing.T) {
	for _, seed := range seeds {
		for _, l := range [][]uint64{span(0, 900), scattered(seed, 700), slices.Repeat(span(7, 200), 3), append(scattered(3, 350), scattered(3, 500)...)} {
			for _, room := range []int{1, 2, 7, 192, 193, 194, 399, 400} {
				want := modelAll(seed, room, l)
				got, errno := bottom.All(seed, room, l)
				if !slices.Equal(got, want) || errno != api.OK {
					t.Fatalf("%d elements, room %d, seed %#x: got %#x and error %d, want %#x", len(l), room, seed, got, errno, want)
				}
				if !bottom.Right(seed, room, got) {
					t.Errorf("%d elements, room %d, seed %#x: the sketch is not valid", len(l), room, seed)
				}
				for _, cut := range []int{0, 1, 100, len(l) / 2, len(l)} {
					a, _ := bottom.All(seed, room, l[:cut])
					b, _ := bottom.All(seed, room, l[cut:])
					if got, errno := bottom.Join(seed, room, a, b); !slices.Equal(got, want) || errno != api.OK {
						t.Errorf("%d elements cut at %d, room %d, seed %#x: got %#x and error %d, want %#x", len(l), cut, room, seed, got, errno, want)
					}
				}
			}
		}
	}
}

// TestArguments: no argument is changed, its spare capacity is neither read nor changed, and the results share no memory with it.
func TestArguments(t *testing.T) {
	for _, c := range []struct {
		room int
		a, b []uint64
	}{
		{2, nil, nil},
		{2, ranked(1, 3), nil},
		{2, nil, ranked(1, 3)},
		{2, ranked(1, 3, 5), ranked(1, 3, 5)},
		{2, ranked(1, 3, 5), ranked(1, 7, 9)},
		{9, ranked(1, 3, 5), ranked(1, 4, 5, 6)},
		{9, ranked(1, 5, 3), ranked(1, 4, 4)}, // not valid
		{0, ranked(1, 3, 5), ranked(1, 4)},
		{400, ranked(1, span(1, 401)...), ranked(1, span(3, 403)...)},
	} {
		spare := ranked(1, 1, 2, 5, 10)
		allA, allB := slices.Concat(c.a, spare), slices.Concat(c.b, spare)
		a, b := allA[:len(c.a)], allB[:len(c.b)]
		wantCommon := fmt.Sprint(bottom.Common(1, c.room, slices.Clip(c.a), slices.Clip(c.b)))
		if got := fmt.Sprint(bottom.Common(1, c.room, a, b)); got != wantCommon {
			t.Errorf("%v: with spare capacity Common is %s, want %s", c, got, wantCommon)
		}
		if got, want := bottom.Right(1, c.room, a), bottom.Right(1, c.room, slices.Clip(c.a)); got != want {
			t.Errorf("%v: with spare capacity Right is %t", c, got)
		}
		checkResult(t, fmt.Sprint("Join of ", c), func(a, b []uint64) ([]uint64, api.Errno) { return bottom.Join(1, c.room, a, b) }, a, b)
		checkResult(t, fmt.Sprint("All of ", c), func(a, b []uint64) ([]uint64, api.Errno) { return bottom.All(1, c.room, a) }, a, b)
		if !slices.Equal(allA, slices.Concat(c.a, spare)) || !slices.Equal(allB, slices.Concat(c.b, spare)) {
			t.Errorf("%v: an argument has changed, or is shared with a result", c)
		}
	}
}

// checkResult compares the results of f for a and b, which have spare capacity, with that for copies without, and reports memory that they share.
func checkResult(t *testing.T, what string, f func(a, b []uint64) ([]uint64, api.Errno), a, b []uint64) {
	t.Helper()
	want, wantErrno := f(slices.Clip(slices.Clone(a)), slices.Clip(slices.Clone(b)))
	one, errno := f(a, b)
	two, _ := f(a, b)
	if !slices.Equal(one, want) || errno != wantErrno {
		t.Errorf("%s: with spare capacity got %#x and error %d, want %#x and error %d", what, one, errno, want, wantErrno)
	}
	one = one[:cap(one)]
	for i := range one {
		one[i] = 99
	}
	if !slices.Equal(two, want) {
		t.Errorf("%s: two results share memory", what)
	}
}

// TestSharedArguments: the same memory may be in both arguments.
func TestSharedArguments(t *testing.T) {
	l := ranked(1, 3, 5, 7, 9)
	if got, errno := bottom.Join(1, 3, l[:3], l[1:]); !slices.Equal(got, ranked(1, 3, 5, 7)) || errno != api.OK {
		t.Errorf("overlapping: got %#x and error %d", got, errno)
	}
	if common, union, errno := bottom.Common(1, 3, l[:3], l[1:]); common != 2 || union != 3 || errno != api.OK {
		t.Errorf("overlapping: got %d, %d and error %d", common, union, errno)
	}
	if !slices.Equal(l, ranked(1, 3, 5, 7, 9)) {
		t.Errorf("overlapping: the arguments have changed to %#x", l)
	}
}
