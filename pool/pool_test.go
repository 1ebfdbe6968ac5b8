package pool_test

import (
	"fmt"
	"math"
	"slices"
	"testing"

	"lotdrawer/api"
	"lotdrawer/combo"
	"lotdrawer/pool"
	"lotdrawer/pooltest"
)

// Short names for the tables.
var (
	of   = pooltest.Of
	span = pooltest.Span
)

// valid returns reservoirs at and around all the limits.
func valid() []api.Pool {
	return []api.Pool{
		of(1, 0),
		{Room: 1, Has: []int{}},
		of(2, 0),
		of(400, 0),
		of(1, 1, 7),
		of(2, 1, 7),
		of(2, 2, 7, 8),
		of(2, 2, 7, 7),
		of(2, 3, 7, 8),
		of(2, 2, math.MinInt, math.MaxInt),
		of(1, api.MaxCount-1, 7),
		of(1, api.MaxCount, 7),
		of(2, api.MaxCount, 7, 8),
		of(400, 399, span(0, 399)...),
		of(400, 400, span(0, 400)...),
		of(400, 401, span(0, 400)...),
		of(400, api.MaxCount, span(0, 400)...),
	}
}

// check reports a result that isn't the one expected, or that isn't valid although there is no error.
func check(t *testing.T, what string, got api.Pool, errno api.Errno, want api.Pool, wantErrno api.Errno) {
	t.Helper()
	if !pooltest.Equal(got, want) || errno != wantErrno {
		t.Errorf("%s: got %v and error %d, want %v and error %d", what, got, errno, want, wantErrno)
	}
	if errno == api.OK && !pool.Right(got) {
		t.Errorf("%s: got %v, which isn't valid", what, got)
	}
}

func TestRight(t *testing.T) {
	for _, p := range valid() {
		if !pool.Right(p) {
			t.Errorf("%v: not valid", p)
		}
	}
	for _, p := range pooltest.Invalid() {
		if pool.Right(p) {
			t.Errorf("%v: valid", p)
		}
	}
}

func TestNew(t *testing.T) {
	for _, room := range []int{1, 2, 3, 399, 400} {
		got, errno := pool.New(room)
		check(t, "new", got, errno, of(room, 0), api.OK)
	}
	for _, room := range []int{0, -1, -400, 401, 402, math.MaxInt, math.MinInt} {
		got, errno := pool.New(room)
		check(t, "room out of range", got, errno, api.Pool{}, api.ErrRange)
	}
}

func TestNeed(t *testing.T) {
	for _, p := range valid() {
		if got, errno := pool.Need(p); got != p.Came+1 || errno != api.OK {
			t.Errorf("%v: got %d and error %d, want %d", p, got, errno, p.Came+1)
		}
	}
	for _, p := range pooltest.Invalid() {
		if got, errno := pool.Need(p); got != 0 || errno != api.ErrForm {
			t.Errorf("%v: got %d and error %d", p, got, errno)
		}
	}
}

func TestAdd(t *testing.T) {
	for _, c := range []struct {
		what    string
		p       api.Pool
		x, draw int
		want    api.Pool
		errno   api.Errno
	}{
		{"the document's example", of(2, 2, 7, 8), 9, 0, of(2, 3, 9, 8), api.OK},
		{"the last index", of(2, 2, 7, 8), 9, 1, of(2, 3, 7, 9), api.OK},
		{"discarded", of(2, 2, 7, 8), 9, 2, of(2, 3, 7, 8), api.OK},
		{"replaced late", of(2, 9, 7, 8), 9, 1, of(2, 10, 7, 9), api.OK},
		{"discarded late", of(2, 9, 7, 8), 9, 9, of(2, 10, 7, 8), api.OK},
		{"the first element", of(2, 0), 7, 0, of(2, 1, 7), api.OK},
		{"the second element", of(2, 1, 7), 8, 1, of(2, 2, 7, 8), api.OK},
		{"appended, whatever the choice", of(3, 2, 7, 8), 9, 0, of(3, 3, 7, 8, 9), api.OK},
		{"again", of(2, 2, 7, 8), 7, 1, of(2, 3, 7, 7), api.OK},
		{"room for one", of(1, 0), 7, 0, of(1, 1, 7), api.OK},
		{"one replaced", of(1, 1, 7), 8, 0, of(1, 2, 8), api.OK},
		{"one kept", of(1, 1, 7), 8, 1, of(1, 2, 7), api.OK},
		{"the least element", of(2, 2, 7, 8), math.MinInt, 0, of(2, 3, math.MinInt, 8), api.OK},
		{"the largest element", of(2, 1, 7), math.MaxInt, 0, of(2, 2, 7, math.MaxInt), api.OK},
		{"element 400", of(400, 399, span(0, 399)...), 399, 0, of(400, 400, span(0, 400)...), api.OK},
		{"element 401 at the end", of(400, 400, span(0, 400)...), -1, 399, of(400, 401, append(span(0, 399), -1)...), api.OK},
		{"element 401 discarded", of(400, 400, span(0, 400)...), -1, 400, of(400, 401, span(0, 400)...), api.OK},
		{"the last that may come", of(2, api.MaxCount-1, 7, 8), 9, 0, of(2, api.MaxCount, 9, 8), api.OK},
		{"the last, discarded", of(2, api.MaxCount-1, 7, 8), 9, api.MaxCount - 1, of(2, api.MaxCount, 7, 8), api.OK},
		{"no more may come", of(2, api.MaxCount, 7, 8), 9, 0, api.Pool{}, api.ErrFull},
		{"no more may come, discarded", of(2, api.MaxCount, 7, 8), 9, 5, api.Pool{}, api.ErrFull},
		{"ErrFull before ErrRange", of(2, api.MaxCount, 7, 8), 9, -1, api.Pool{}, api.ErrFull},
		{"ErrFull before ErrRange, above", of(2, api.MaxCount, 7, 8), 9, math.MaxInt, api.Pool{}, api.ErrFull},
		{"choice above", of(2, 2, 7, 8), 9, 3, api.Pool{}, api.ErrRange},
		{"choice below", of(2, 2, 7, 8), 9, -1, api.Pool{}, api.ErrRange},
		{"largest choice", of(2, 2, 7, 8), 9, math.MaxInt, api.Pool{}, api.ErrRange},
		{"least choice", of(2, 2, 7, 8), 9, math.MinInt, api.Pool{}, api.ErrRange},
		{"choice above, appended", of(2, 1, 7), 8, 2, api.Pool{}, api.ErrRange},
		{"choice below, appended", of(2, 1, 7), 8, -1, api.Pool{}, api.ErrRange},
		{"choice above, first element", of(2, 0), 7, 1, api.Pool{}, api.ErrRange},
		{"choice above, last element", of(2, api.MaxCount-1, 7, 8), 9, api.MaxCount, api.Pool{}, api.ErrRange},
	} {
		got, errno := pool.Add(c.p, c.x, c.draw)
		check(t, c.what, got, errno, c.want, c.errno)
	}
	for _, p := range pooltest.Invalid() {
		for _, draw := range []int{0, 1, -1, math.MaxInt} {
			got, errno := pool.Add(p, 9, draw)
			check(t, "invalid reservoir", got, errno, api.Pool{}, api.ErrForm)
		}
	}
}

// TestAddAsNeeded: Add takes exactly as many values of the choice as Need says.
func TestAddAsNeeded(t *testing.T) {
	for _, p := range []api.Pool{of(3, 0), of(3, 2, 7, 8), of(3, 3, 7, 8, 9), of(3, 10, 7, 8, 9), of(1, 5, 7)} {
		need, errno := pool.Need(p)
		if errno != api.OK {
			t.Fatalf("%v: got error %d", p, errno)
		}
		taken := 0
		for draw := -5; draw < need+5; draw++ {
			if _, errno := pool.Add(p, 0, draw); errno == api.OK {
				taken++
			}
		}
		if taken != need {
			t.Errorf("%v: %d choices are taken, %d are needed", p, taken, need)
		}
	}
}

func TestAll(t *testing.T) {
	for _, c := range []struct {
		what     string
		room     int
		l, draws []int
		want     api.Pool
		errno    api.Errno
	}{
		{"one replaced", 2, []int{7, 8, 9}, []int{0, 1, 0}, of(2, 3, 9, 8), api.OK},
		{"one discarded", 2, []int{7, 8, 9}, []int{0, 0, 2}, of(2, 3, 7, 8), api.OK},
		{"replaced twice", 2, []int{7, 8, 9, 6}, []int{0, 0, 1, 1}, of(2, 4, 7, 6), api.OK},
		{"nothing", 2, nil, nil, of(2, 0), api.OK},
		{"nil and empty", 2, nil, []int{}, of(2, 0), api.OK},
		{"empty and nil", 2, []int{}, nil, of(2, 0), api.OK},
		{"not full", 3, []int{7, 8}, []int{0, 1}, of(3, 2, 7, 8), api.OK},
		{"just full", 3, []int{7, 8, 9}, []int{0, 0, 0}, of(3, 3, 7, 8, 9), api.OK},
		{"the last of all", 1, []int{7, 8, 9}, []int{0, 0, 0}, of(1, 3, 9), api.OK},
		{"the first of all", 1, []int{7, 8, 9}, []int{0, 1, 2}, of(1, 3, 7), api.OK},
		{"400 elements", 400, span(0, 400), span(0, 400), of(400, 400, span(0, 400)...), api.OK},
		{"the first 400", 400, span(0, 1000), span(0, 1000), of(400, 1000, span(0, 400)...), api.OK},
		{"the last 400", 400, span(0, 800), append(make([]int, 400), span(0, 400)...), of(400, 800, span(400, 800)...), api.OK},
		{"no room", 0, []int{7}, []int{0}, api.Pool{}, api.ErrRange},
		{"room below", -1, []int{7}, []int{0}, api.Pool{}, api.ErrRange},
		{"room above", 401, []int{7}, []int{0}, api.Pool{}, api.ErrRange},
		{"room above, nothing", 401, nil, nil, api.Pool{}, api.ErrRange},
		{"the error of New before ErrForm", 0, []int{7}, nil, api.Pool{}, api.ErrRange},
		{"too few choices", 2, []int{7, 8}, []int{0}, api.Pool{}, api.ErrForm},
		{"too many choices", 2, []int{7}, []int{0, 1}, api.Pool{}, api.ErrForm},
		{"no choices", 2, []int{7}, nil, api.Pool{}, api.ErrForm},
		{"no elements", 2, nil, []int{0}, api.Pool{}, api.ErrForm},
		{"ErrForm before those of Add", 2, []int{7, 8, 9}, []int{5, -1}, api.Pool{}, api.ErrForm},
		{"first choice above", 2, []int{7, 8}, []int{1, 0}, api.Pool{}, api.ErrRange},
		{"first choice below", 2, []int{7, 8}, []int{-1, 0}, api.Pool{}, api.ErrRange},
		{"second choice above", 2, []int{7, 8}, []int{0, 2}, api.Pool{}, api.ErrRange},
		{"last choice above", 2, []int{7, 8, 9}, []int{0, 1, 3}, api.Pool{}, api.ErrRange},
		{"last choice below", 2, []int{7, 8, 9}, []int{0, 1, -1}, api.Pool{}, api.ErrRange},
		{"choice in the middle", 2, []int{7, 8, 9, 6}, []int{0, 1, math.MaxInt, 0}, api.Pool{}, api.ErrRange},
	} {
		got, errno := pool.All(c.room, c.l, c.draws)
		check(t, c.what, got, errno, c.want, c.errno)
	}
}

// TestAllIsAddRepeated compares All with one Add after the other, for all choices.
func TestAllIsAddRepeated(t *testing.T) {
	l := []int{5, 3, 5, 9, 1, 2}
	for room := 1; room <= 7; room++ {
		for n := range len(l) + 1 {
			pooltest.Choices(span(1, n+1), func(draws []int) {
				want, wantErrno := pool.New(room)
				for i, draw := range draws {
					want, wantErrno = pool.Add(want, l[i], draw)
				}
				got, errno := pool.All(room, l[:n], draws)
				check(t, "all", got, errno, want, wantErrno)
			})
		}
	}
}

// checkUniform reports counts that are not those of all subsets of n elements with k of them, each as often as the others.
func checkUniform(t *testing.T, counts map[string]int, n, k int) {
	t.Helper()
	if subsets, errno := combo.Of(n, k); errno != api.OK || !pooltest.Uniform(counts, subsets) {
		t.Errorf("%d of %d: got the samples %v", k, n, counts)
	}
}

// TestUniform counts over all choices: every sample of a stream is as likely as every other.
func TestUniform(t *testing.T) {
	for n := 1; n <= 7; n++ {
		for room := 1; room <= n; room++ {
			counts := map[string]int{}
			pooltest.Choices(span(1, n+1), func(draws []int) {
				p, errno := pool.All(room, span(10, 10+n), draws)
				if errno != api.OK {
					t.Fatalf("room %d, choices %v: error %d", room, draws, errno)
				}
				counts[pooltest.Sample(p)]++
			})
			checkUniform(t, counts, n, room)
		}
	}
}

func TestSmaller(t *testing.T) {
	for _, c := range []struct {
		what  string
		p     api.Pool
		room  int
		draws []int
		want  api.Pool
		errno api.Errno
	}{
		{"without the first", of(2, 2, 7, 8), 1, []int{0}, of(1, 2, 8), api.OK},
		{"without the last", of(2, 2, 7, 8), 1, []int{1}, of(1, 2, 7), api.OK},
		{"the others keep their order", of(4, 9, 5, 6, 7, 8), 3, []int{1}, of(3, 9, 5, 7, 8), api.OK},
		{"two of four", of(4, 9, 5, 6, 7, 8), 2, []int{0, 0}, of(2, 9, 7, 8), api.OK},
		{"an index counts what is left", of(4, 9, 5, 6, 7, 8), 2, []int{1, 1}, of(2, 9, 5, 8), api.OK},
		{"down to one", of(4, 9, 5, 6, 7, 8), 1, []int{3, 2, 1}, of(1, 9, 5), api.OK},
		{"no element too many", of(4, 2, 7, 8), 3, nil, of(3, 2, 7, 8), api.OK},
		{"just as many", of(4, 2, 7, 8), 2, nil, of(2, 2, 7, 8), api.OK},
		{"fewer came than there was room for", of(4, 3, 7, 8, 9), 2, []int{2}, of(2, 3, 7, 8), api.OK},
		{"the same room", of(2, 5, 7, 8), 2, nil, of(2, 5, 7, 8), api.OK},
		{"the same room, empty", of(2, 0), 2, []int{}, of(2, 0), api.OK},
		{"empty", of(2, 0), 1, nil, of(1, 0), api.OK},
		{"choices that aren't needed", of(2, 2, 7, 8), 1, []int{0, 0, 0}, of(1, 2, 8), api.OK},
		{"invalid choices that aren't needed", of(2, 2, 7, 8), 1, []int{0, -1, 9}, of(1, 2, 8), api.OK},
		{"none needed, invalid ones", of(2, 2, 7, 8), 2, []int{-1, 9}, of(2, 2, 7, 8), api.OK},
		{"most came", of(2, api.MaxCount, 7, 8), 1, []int{0}, of(1, api.MaxCount, 8), api.OK},
		{"400 to 1", of(400, 400, span(0, 400)...), 1, make([]int, 399), of(1, 400, 399), api.OK},
		{"400 to 399", of(400, 500, span(0, 400)...), 399, []int{399}, of(399, 500, span(0, 399)...), api.OK},
		{"no room", of(2, 2, 7, 8), 0, []int{0, 0}, api.Pool{}, api.ErrRange},
		{"room below", of(2, 2, 7, 8), -1, []int{0, 0}, api.Pool{}, api.ErrRange},
		{"more room", of(2, 2, 7, 8), 3, nil, api.Pool{}, api.ErrRange},
		{"more room, empty", of(2, 0), 3, nil, api.Pool{}, api.ErrRange},
		{"least room", of(2, 2, 7, 8), math.MinInt, nil, api.Pool{}, api.ErrRange},
		{"largest room", of(2, 2, 7, 8), math.MaxInt, nil, api.Pool{}, api.ErrRange},
		{"room before choices", of(2, 2, 7, 8), 0, nil, api.Pool{}, api.ErrRange},
		{"no choice", of(2, 2, 7, 8), 1, nil, api.Pool{}, api.ErrEnd},
		{"too few choices", of(4, 4, 5, 6, 7, 8), 1, []int{0, 0}, api.Pool{}, api.ErrEnd},
		{"index above", of(2, 2, 7, 8), 1, []int{2}, api.Pool{}, api.ErrRange},
		{"index below", of(2, 2, 7, 8), 1, []int{-1}, api.Pool{}, api.ErrRange},
		{"largest index", of(2, 2, 7, 8), 1, []int{math.MaxInt}, api.Pool{}, api.ErrRange},
		{"least index", of(2, 2, 7, 8), 1, []int{math.MinInt}, api.Pool{}, api.ErrRange},
		{"index of what is gone", of(4, 4, 5, 6, 7, 8), 2, []int{0, 3}, api.Pool{}, api.ErrRange},
		{"index below the capacity but above the sample", of(4, 2, 7, 8), 1, []int{2}, api.Pool{}, api.ErrRange},
		{"invalid index before the end", of(4, 4, 5, 6, 7, 8), 1, []int{0, 3}, api.Pool{}, api.ErrRange},
	} {
		got, errno := pool.Smaller(c.p, c.room, c.draws)
		check(t, c.what, got, errno, c.want, c.errno)
	}
	for _, p := range pooltest.Invalid() {
		for _, room := range []int{1, 0, -1, 2, 401} {
			got, errno := pool.Smaller(p, room, nil)
			check(t, "invalid reservoir", got, errno, api.Pool{}, api.ErrForm)
		}
	}
}

// TestSmallerIsUniform counts over all choices: a smaller sample is as uniform as the one it is taken from.
func TestSmallerIsUniform(t *testing.T) {
	const n, room = 5, 4
	for smaller := 1; smaller <= room; smaller++ {
		limits := span(1, n+1)
		for left := room; left > smaller; left-- {
			limits = append(limits, left)
		}
		counts := map[string]int{}
		pooltest.Choices(limits, func(draws []int) {
			p, errno := pool.All(room, span(10, 10+n), draws[:n])
			if errno == api.OK {
				p, errno = pool.Smaller(p, smaller, draws[n:])
			}
			if errno != api.OK {
				t.Fatalf("%d of %d, choices %v: error %d", smaller, n, draws, errno)
			}
			counts[pooltest.Sample(p)]++
		})
		checkUniform(t, counts, n, smaller)
	}
}

// everything calls all functions that take slices and returns the reservoirs that they return, and the rest as text.
func everything(p api.Pool, draws []int) ([]api.Pool, string) {
	replaced, errno1 := pool.Add(p, 9, 0)
	discarded, errno2 := pool.Add(p, 9, p.Came)
	wrong, errno3 := pool.Add(p, 9, -1)
	same, errno4 := pool.Smaller(p, p.Room, draws)
	smaller, errno5 := pool.Smaller(p, p.Room-1, draws)
	one, errno6 := pool.Smaller(p, 1, draws)
	stream, errno7 := pool.All(2, p.Has, draws)
	need, errno8 := pool.Need(p)
	text := fmt.Sprint(need, pool.Right(p), errno1, errno2, errno3, errno4, errno5, errno6, errno7, errno8)
	return []api.Pool{replaced, discarded, wrong, same, smaller, one, stream}, text
}

// overwrite changes everything that the memory of l holds, spare capacity too.
func overwrite(l []int) {
	for i := range l[:cap(l)] {
		l[:cap(l)][i] = -99
	}
}

// TestArguments: no argument is changed, its spare capacity is neither read nor changed, and no result shares its memory.
func TestArguments(t *testing.T) {
	for _, c := range []struct {
		p     api.Pool
		draws []int
	}{
		{of(2, 0), nil},
		{of(2, 1, 7), []int{0}},
		{of(2, 2, 7, 8), []int{0, 1}},
		{of(2, 3, 7, 8), []int{0}},
		{of(3, 3, 5, 7, 8), []int{0, 1, 1}},
		{of(4, 4, 5, 6, 7, 8), []int{0, 1, 2, 3}},
		{of(4, 4, 5, 6, 7, 8), []int{0, 0}},
		{of(4, 3, 5, 6, 7), []int{0, 0, 0}},
		{of(2, api.MaxCount, 7, 8), []int{1}},
		{of(2, 3, 7), []int{0}},  // with its spare capacity it would be valid
		{of(3, 2, 7), []int{-1}}, // invalid too
	} {
		spare := []int{1, 0, 1}
		has, draws := slices.Concat(c.p.Has, spare), slices.Concat(c.draws, spare)
		given := c.p
		given.Has = has[:len(c.p.Has)]
		got, gotText := everything(given, draws[:len(c.draws)])
		alone := c.p
		alone.Has = slices.Clip(slices.Clone(c.p.Has))
		want, wantText := everything(alone, slices.Clip(slices.Clone(c.draws)))
		if !slices.EqualFunc(got, want, pooltest.Equal) || gotText != wantText {
			t.Errorf("%v: the spare capacity changes the results", c.p)
		}
		for i, result := range got {
			overwrite(result.Has)
			for j := i + 1; j < len(got); j++ {
				if !slices.Equal(got[j].Has, want[j].Has) {
					t.Errorf("%v: results %d and %d share memory", c.p, i, j)
				}
			}
		}
		if !slices.Equal(has, slices.Concat(c.p.Has, spare)) || !slices.Equal(draws, slices.Concat(c.draws, spare)) {
			t.Errorf("%v: changed, or shared with a result", c.p)
		}
	}
}
