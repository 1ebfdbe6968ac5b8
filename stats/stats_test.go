package stats_test

import (
	"math"
	"math/big"
	"slices"
	"testing"

	"lotdrawer/api"
	"lotdrawer/pooltest"
	"lotdrawer/stats"
	"lotdrawer/weighttest"
)

const (
	// most is the largest element.
	most = 1 << 20
	// square is the largest square of an element.
	square = 1 << 40
	// room is the largest number of elements of moments.
	room = 1024
)

// moments returns moments; nothing of them is checked.
func moments(n, sum, squares int) api.Moments {
	return api.Moments{N: n, Sum: sum, Squares: squares}
}

// Case of a test is moments, and what is special about them.
type Case struct {
	what string
	m    api.Moments
}

// consistent returns moments that are consistent.
func consistent() []Case {
	return []Case{
		{"of nothing", moments(0, 0, 0)},
		{"example", moments(3, 9, 41)},
		{"of a zero", moments(1, 0, 0)},
		{"of a one", moments(1, 1, 1)},
		{"of a negative one", moments(1, -1, 1)},
		{"of the largest element", moments(1, most, square)},
		{"of the least element", moments(1, -most, square)},
		{"of one element, of no integer", moments(1, 0, 2)},
		{"of zeros", moments(room, 0, 0)},
		{"of the most of the largest elements", moments(room, room*most, room*square)},
		{"of the most of the least elements", moments(room, -room*most, room*square)},
		{"of the most of the least and the largest", moments(room, 0, room*square)},
		{"the least squares for a sum", moments(4, 8, 16)},
		{"the least squares for a negative sum", moments(4, -8, 16)},
		{"odd both", moments(2, 3, 5)},
		{"odd both, negative", moments(2, -3, 5)},
		{"the largest sum but one", moments(2, 2*most-1, 2*square-2*most+1)},
		{"the most elements", moments(room, 5, 777)},
	}
}

// inconsistent returns moments that break one rule each, or several.
func inconsistent() []Case {
	return []Case{
		{"N below 0", moments(-1, 0, 0)},
		{"N below 0, Squares too", moments(-1, 0, -2)},
		{"N below 0, and a product above that of the sums", moments(-1, 1, -1)},
		{"the least N", moments(math.MinInt, 0, 0)},
		{"N that is too large", moments(room+1, 0, 0)},
		{"N that is too large, of ones", moments(room+1, room+1, room+1)},
		{"the largest N", moments(math.MaxInt, 0, 0)},
		{"N whose bound would overflow to 0", moments(1<<44, 0, 0)},
		{"a sum of nothing", moments(0, 2, 0)},
		{"squares of nothing", moments(0, 0, 2)},
		{"a sum above the largest", moments(1, most+2, square)},
		{"a sum above the largest, and squares too", moments(1, most+2, square+4*most+4)},
		{"a sum below the least", moments(1, -most-2, square)},
		{"a sum below the least, and squares above the largest", moments(1, -most-2, square+4*most+4)},
		{"a sum above the largest of the most", moments(room, room*most+2, room*square)},
		{"a sum below the least of the most", moments(room, -room*most-2, room*square)},
		{"the largest sum", moments(3, math.MaxInt, 41)},
		{"the least sum", moments(3, math.MinInt, 42)},
		{"a sum whose square would overflow to 0", moments(3, 1<<32, 42)},
		{"a negative sum whose square would overflow to 0", moments(3, -1<<32, 42)},
		{"squares below 0", moments(3, 0, -2)},
		{"the least squares", moments(3, 0, math.MinInt)},
		{"squares above the largest", moments(1, 0, square+2)},
		{"squares above the largest of three", moments(3, 0, 3*square+2)},
		{"squares above the largest of the most", moments(room, 0, room*square+2)},
		{"the largest squares", moments(3, 1, math.MaxInt)},
		{"squares that are too small", moments(3, 9, 25)},
		{"squares that are too small by 2", moments(4, 8, 14)},
		{"squares that are too small for a negative sum", moments(4, -8, 14)},
		{"squares of 0 for a sum", moments(2, 2, 0)},
		{"squares that are too small for the largest sum", moments(room, room*most, room*square-2)},
		{"an even sum, odd squares", moments(3, 8, 41)},
		{"an odd sum, even squares", moments(3, 9, 42)},
		{"a negative odd sum, even squares", moments(3, -9, 42)},
		{"a negative even sum, odd squares", moments(3, -8, 41)},
		{"one odd square of zeros", moments(1, 0, 1)},
	}
}

func TestRight(t *testing.T) {
	for _, c := range consistent() {
		if !stats.Right(c.m) {
			t.Errorf("%s: got false", c.what)
		}
	}
	for _, c := range inconsistent() {
		if stats.Right(c.m) {
			t.Errorf("%s: got true", c.what)
		}
	}
}

// between reports whether low <= x <= high.
func between(low, x, high *big.Int) bool {
	return low.Cmp(x) <= 0 && x.Cmp(high) <= 0
}

// right is Right in the chapter's words, with numbers that don't overflow.
func right(m api.Moments) bool {
	zero := big.NewInt(0)
	n, sum, squares := big.NewInt(int64(m.N)), big.NewInt(int64(m.Sum)), big.NewInt(int64(m.Squares))
	limit := new(big.Int).Mul(n, big.NewInt(most))
	largest := new(big.Int).Mul(n, big.NewInt(square))
	product := new(big.Int).Mul(n, squares)
	difference := new(big.Int).Sub(sum, squares)
	return between(zero, n, big.NewInt(room)) &&
		between(new(big.Int).Neg(limit), sum, limit) &&
		between(zero, squares, largest) &&
		new(big.Int).Mul(sum, sum).Cmp(product) <= 0 &&
		difference.Bit(0) == 0
}

// TestRightEverywhere compares Right with its wording for all small numbers, and for large ones near every bound.
func TestRightEverywhere(t *testing.T) {
	compare := func(m api.Moments) {
		if got, want := stats.Right(m), right(m); got != want {
			t.Fatalf("%v: got %t", m, got)
		}
	}
	for n := -2; n <= 6; n++ {
		for sum := -15; sum <= 15; sum++ {
			for squares := -5; squares <= 50; squares++ {
				compare(moments(n, sum, squares))
			}
		}
	}
	var large []int
	for _, x := range []int{0, most, 2 * most, room * most, square, 2 * square, room * square, 1 << 31, 1 << 32, 1 << 44, 1 << 62, math.MaxInt} {
		for _, y := range []int{x - 2, x - 1, x, x + 1, x + 2} { // above the largest they begin with the least
			large = append(large, y, -y)
		}
	}
	for _, n := range append([]int{-1, 0, 1, 2, 3, 512, room - 1, room, room + 1, 1 << 24, -1 << 24}, large...) {
		for _, sum := range large {
			for _, squares := range large {
				compare(moments(n, sum, squares))
			}
		}
	}
}

func TestOf(t *testing.T) {
	for _, c := range []struct {
		what string
		l    []int
		want api.Moments
	}{
		{"none", nil, moments(0, 0, 0)},
		{"none, not nil", []int{}, moments(0, 0, 0)},
		{"example", []int{1, 2, 6}, moments(3, 9, 41)},
		{"in another order", []int{6, 1, 2}, moments(3, 9, 41)},
		{"one", []int{7}, moments(1, 7, 49)},
		{"negative", []int{-7}, moments(1, -7, 49)},
		{"negative and positive", []int{-3, 3, -1}, moments(3, -1, 19)},
		{"zeros", []int{0, 0}, moments(2, 0, 0)},
		{"equal ones", []int{4, 4, 4}, moments(3, 12, 48)},
		{"the largest element", []int{most}, moments(1, most, square)},
		{"the least element", []int{-most}, moments(1, -most, square)},
		{"the least and the largest", []int{-most, 0, most, most}, moments(4, most, 3*square)},
		{"400 zeros", weighttest.Same(0, 400), moments(400, 0, 0)},
		{"400 of the largest", weighttest.Same(most, 400), moments(400, 400*most, 400*square)},
		{"400 of the least", weighttest.Same(-most, 400), moments(400, -400*most, 400*square)},
		{"1 to 400", pooltest.Span(1, 401), moments(400, 80200, 21413400)},
		{"of the spare capacity nothing", []int{1, 2, 6, 50}[:3], moments(3, 9, 41)},
	} {
		if got, errno := stats.Of(c.l); got != c.want || errno != api.OK {
			t.Errorf("%s: got %v and error %d, want %v", c.what, got, errno, c.want)
		}
	}
}

// List is a list of integers, and what is special about it.
type List struct {
	what string
	l    []int
}

// outside returns lists that are too long, or with an element that is out of range.
func outside() []List {
	return []List{
		{"too large by 1", []int{most + 1}},
		{"too small by 1", []int{-most - 1}},
		{"the first too large", []int{most + 1, 0, 0}},
		{"the last too large", []int{0, 0, most + 1}},
		{"the first too small", []int{-most - 1, 0, 0}},
		{"the last too small", []int{0, 0, -most - 1}},
		{"too large, but the sum isn't", []int{most + 1, -1}},
		{"too large and too small", []int{most + 1, -most - 1}},
		{"the largest integer", []int{1, math.MaxInt, 1}},
		{"the least integer", []int{1, math.MinInt, 1}},
		{"integers whose sum would overflow", []int{math.MaxInt, math.MaxInt, 3}},
		{"an integer whose square would overflow to 0", []int{1 << 32}},
		{"401 elements", weighttest.Same(1, 401)},
		{"401 zeros", weighttest.Same(0, 401)},
		{"1000 elements", pooltest.Span(0, 1000)},
		{"1024 elements", weighttest.Same(2, 1024)},
		{"the first of 400 too small", append([]int{-most - 1}, weighttest.Same(1, 399)...)},
		{"the last of 400 too large", append(weighttest.Same(1, 399), most+1)},
		{"401 elements, one of them too large", append(weighttest.Same(1, 400), most+1)},
	}
}

func TestOfRefuses(t *testing.T) {
	for _, c := range outside() {
		if got, errno := stats.Of(c.l); got != moments(0, 0, 0) || errno != api.ErrRange {
			t.Errorf("%s: got %v and error %d, want error %d", c.what, got, errno, api.ErrRange)
		}
	}
}

func TestJoin(t *testing.T) {
	for _, c := range []struct {
		what       string
		a, b, want api.Moments
	}{
		{"nothing and nothing", moments(0, 0, 0), moments(0, 0, 0), moments(0, 0, 0)},
		{"nothing and something", moments(0, 0, 0), moments(3, 9, 41), moments(3, 9, 41)},
		{"something and nothing", moments(3, 9, 41), moments(0, 0, 0), moments(3, 9, 41)},
		{"two elements", moments(1, 2, 4), moments(1, 3, 9), moments(2, 5, 13)},
		{"opposite elements", moments(1, 5, 25), moments(1, -5, 25), moments(2, 0, 50)},
		{"negative sums", moments(2, -5, 13), moments(3, -9, 41), moments(5, -14, 54)},
		{"more than the elements of a list", moments(400, 5, 777), moments(400, 6, 888), moments(800, 11, 1665)},
		{"the most elements", moments(512, 0, 2), moments(512, 4, 4), moments(room, 4, 6)},
		{"the most elements, of unequal parts", moments(1, 3, 9), moments(room-1, 5, 777), moments(room, 8, 786)},
		{"the most elements, and nothing", moments(room, 5, 777), moments(0, 0, 0), moments(room, 5, 777)},
		{"nothing, and the most elements", moments(0, 0, 0), moments(room, 5, 777), moments(room, 5, 777)},
		{"the largest", moments(512, 512*most, 512*square), moments(512, 512*most, 512*square), moments(room, room*most, room*square)},
		{"the least", moments(512, -512*most, 512*square), moments(512, -512*most, 512*square), moments(room, -room*most, room*square)},
		{"the largest and the least", moments(1000, 1000*most, 1000*square), moments(24, -24*most, 24*square), moments(room, 976*most, room*square)},
		{"of no integers", moments(1, 0, 2), moments(1, 0, 4), moments(2, 0, 6)},
	} {
		if got, errno := stats.Join(c.a, c.b); got != c.want || errno != api.OK {
			t.Errorf("%s: got %v and error %d, want %v", c.what, got, errno, c.want)
		}
	}
}

func TestJoinRefuses(t *testing.T) {
	refuses := func(what string, a, b api.Moments, want api.Errno) {
		if got, errno := stats.Join(a, b); got != moments(0, 0, 0) || errno != want {
			t.Errorf("%s: got %v and error %d, want error %d", what, got, errno, want)
		}
	}
	for _, c := range inconsistent() {
		for _, other := range consistent() {
			refuses(c.what+", and "+other.what, c.m, other.m, api.ErrForm)
			refuses(other.what+", and "+c.what, other.m, c.m, api.ErrForm)
		}
		for _, other := range inconsistent() {
			refuses(c.what+", and "+other.what, c.m, other.m, api.ErrForm)
		}
	}
	refuses("one more than the most", moments(room, 5, 777), moments(1, 0, 0), api.ErrFull)
	refuses("the most after one", moments(1, 0, 0), moments(room, 5, 777), api.ErrFull)
	refuses("one more, of halves", moments(512, 0, 0), moments(513, 0, 0), api.ErrFull)
	refuses("twice the most", moments(room, room*most, room*square), moments(room, room*most, room*square), api.ErrFull)
	refuses("too many, and the second has too small squares", moments(room, 0, 0), moments(1, 2, 2), api.ErrForm)
	refuses("too many, and the first is odd", moments(room, 0, 1), moments(1, 0, 0), api.ErrForm)
}

// TestJoinGrid: moments that are joined are consistent for all small ones, and joining is refused for none of them.
func TestJoinGrid(t *testing.T) {
	var small []api.Moments
	for n := 0; n <= 3; n++ {
		for sum := -6; sum <= 6; sum++ {
			for squares := 0; squares <= 14; squares++ {
				if m := moments(n, sum, squares); stats.Right(m) {
					small = append(small, m)
				}
			}
		}
	}
	for _, a := range small {
		for _, b := range small {
			m, errno := stats.Join(a, b)
			if want := moments(a.N+b.N, a.Sum+b.Sum, a.Squares+b.Squares); m != want || errno != api.OK {
				t.Fatalf("%v and %v: got %v and error %d, want %v", a, b, m, errno, want)
			}
			if !stats.Right(m) {
				t.Fatalf("%v and %v: %v is not consistent", a, b, m)
			}
		}
	}
}

func TestSpread(t *testing.T) {
	for _, c := range []struct {
		what string
		m    api.Moments
		want int
	}{
		{"of nothing", moments(0, 0, 0), 0},
		{"example", moments(3, 9, 41), 42},
		{"example, negative", moments(3, -9, 41), 42},
		{"of one element", moments(1, 7, 49), 0},
		{"of equal elements", moments(4, 8, 16), 0},
		{"of 0 and 1", moments(2, 1, 1), 1},
		{"of -1 and 1", moments(2, 0, 2), 4},
		{"of no integer", moments(1, 0, 2), 2},
		{"of the largest element", moments(1, most, square), 0},
		{"of the least and the largest", moments(2, 0, 2*square), 4 * square},
		{"of the most of the largest", moments(room, room*most, room*square), 0},
		{"of the most of the least", moments(room, -room*most, room*square), 0},
		{"the largest", moments(room, 0, room*square), 1 << 60},
		{"just below the largest", moments(room, 2, room*square-2), 1<<60 - 2*room - 4},
		{"of 1 to 400", moments(400, 80200, 21413400), 2133320000},
	} {
		if got, errno := stats.Spread(c.m); got != c.want || errno != api.OK {
			t.Errorf("%s: got %d and error %d, want %d", c.what, got, errno, c.want)
		}
	}
	for _, c := range inconsistent() {
		if got, errno := stats.Spread(c.m); got != 0 || errno != api.ErrForm {
			t.Errorf("%s: got %d and error %d, want error %d", c.what, got, errno, api.ErrForm)
		}
	}
}

func TestMedian(t *testing.T) {
	for _, c := range []struct {
		what string
		l    []int
		want int
	}{
		{"example", []int{1, 2, 6}, 4},
		{"example in another order", []int{6, 1, 2}, 4},
		{"one", []int{7}, 14},
		{"a negative one", []int{-7}, -14},
		{"two", []int{1, 2}, 3},
		{"two, decreasing", []int{2, 1}, 3},
		{"two, far apart", []int{100, -1}, 99},
		{"negative, and odd", []int{-1, -2}, -3},
		{"four", []int{9, 1, 4, 2}, 6},
		{"five", []int{9, 1, 4, 2, 3}, 6},
		{"equal ones", []int{5, 5, 5, 5}, 10},
		{"equal ones on one side", []int{5, 1, 1, 5, 1}, 2},
		{"not the mean", []int{0, 0, most}, 0},
		{"negative numbers are the least", []int{1, -5, 0}, 0},
		{"the largest", []int{most, most}, 2 * most},
		{"the least", []int{-most}, -2 * most},
		{"the least and the largest", []int{most, -most}, 0},
		{"400 elements", pooltest.Span(1, 401), 401},
		{"399 elements", pooltest.Span(1, 400), 400},
		{"of the spare capacity nothing", []int{1, 2, 6, 50}[:3], 4},
	} {
		if got, errno := stats.Median(c.l); got != c.want || errno != api.OK {
			t.Errorf("%s: got %d and error %d, want %d", c.what, got, errno, c.want)
		}
	}
}

func TestMedianRefuses(t *testing.T) {
	for _, c := range outside() {
		if got, errno := stats.Median(c.l); got != 0 || errno != api.ErrRange {
			t.Errorf("%s: got %d and error %d, want error %d", c.what, got, errno, api.ErrRange)
		}
	}
	for _, c := range []List{{"nil", nil}, {"empty", []int{}}, {"empty, with spare capacity", []int{1, 2, 3}[:0]}} {
		if got, errno := stats.Median(c.l); got != 0 || errno != api.ErrNone {
			t.Errorf("%s: got %d and error %d, want error %d", c.what, got, errno, api.ErrNone)
		}
	}
}

func TestBoth(t *testing.T) {
	for _, c := range []struct {
		what string
		x, y []int
		want int
	}{
		{"none", nil, nil, 0},
		{"none, one of them not nil", nil, []int{}, 0},
		{"one", []int{7}, []int{9}, 0},
		{"two", []int{1, 2}, []int{3, 5}, 2},
		{"in opposite directions", []int{1, 2}, []int{5, 3}, -2},
		{"with itself", []int{1, 2, 6}, []int{1, 2, 6}, 42},
		{"with its negative", []int{1, 2, 6}, []int{-1, -2, -6}, -42},
		{"with equal ones", []int{1, 2, 6}, []int{5, 5, 5}, 0},
		{"the order counts", []int{1, 2, 6}, []int{2, 6, 1}, -21},
		{"the largest", []int{most, -most}, []int{most, -most}, 4 * square},
		{"the least", []int{most, -most}, []int{-most, most}, -4 * square},
		{"equal, and the largest", []int{most, most}, []int{most, most}, 0},
		{"400 of the largest", weighttest.Same(most, 400), weighttest.Same(most, 400), 0},
		{"1 to 400", pooltest.Span(1, 401), pooltest.Span(1, 401), 2133320000},
		{"of the spare capacity nothing", []int{1, 2, 6}[:2], []int{3, 5, 9}[:2], 2},
		{"of unequal spare capacity nothing", []int{1, 2}, []int{3, 5, 9}[:2], 2},
	} {
		if got, errno := stats.Both(c.x, c.y); got != c.want || errno != api.OK {
			t.Errorf("%s: got %d and error %d, want %d", c.what, got, errno, c.want)
		}
	}
	ends := append(weighttest.Same(most, 200), weighttest.Same(-most, 200)...)
	if got, errno := stats.Both(ends, ends); got != 400*400*square || errno != api.OK {
		t.Errorf("the largest of all: got %d and error %d", got, errno)
	}
}

func TestBothRefuses(t *testing.T) {
	refuses := func(what string, x, y []int, want api.Errno) {
		if got, errno := stats.Both(x, y); got != 0 || errno != want {
			t.Errorf("%s: got %d and error %d, want error %d", what, got, errno, want)
		}
	}
	for _, c := range outside() {
		for _, other := range [][]int{nil, {1}, {1, 2, 3}, weighttest.Same(0, len(c.l))} {
			refuses("x "+c.what, c.l, other, api.ErrRange)
			refuses("y "+c.what, other, c.l, api.ErrRange)
		}
		refuses("x and y "+c.what, c.l, c.l, api.ErrRange)
	}
	refuses("x is longer", []int{1, 2, 3}, []int{1, 2}, api.ErrForm)
	refuses("y is longer", []int{1, 2}, []int{1, 2, 3}, api.ErrForm)
	refuses("x is empty", nil, []int{1}, api.ErrForm)
	refuses("y is empty", []int{0}, nil, api.ErrForm)
	refuses("400 and 399", weighttest.Same(1, 400), weighttest.Same(1, 399), api.ErrForm)
	refuses("longer only by spare capacity", []int{1, 2, 3}, []int{1, 2, 3}[:2], api.ErrForm)
}

// centred returns n elements without a pattern, of the whole range.
func centred(seed uint64, n int) []int {
	l := weighttest.Scattered(seed, n, 2*most+1)
	for i := range l {
		l[i] -= most
	}
	return l
}

// TestValues: the values come from a version in another language.
func TestValues(t *testing.T) {
	for _, c := range []struct {
		seed                           uint64
		n, sum, squares                int
		wantSpread, wantMedian, covary int
	}{
		{1, 400, -13237104, 156679552653948, 62496600139272384, -151453, -1621687494484896},
		{2, 399, 1381288, 139989957419204, 55854085053723452, 40094, -3138507677306077},
		{3, 7, 1557087, 3694836148847, 23439333116360, 1486398, -14315339874619},
		{4, 8, -1303425, 1821125286793, 12870085563719, -722980, -2816917096281},
	} {
		x, y := centred(c.seed, c.n), centred(c.seed+100, c.n)
		m, errno := stats.Of(x)
		if m != moments(c.n, c.sum, c.squares) || errno != api.OK {
			t.Errorf("seed %d: got the moments %v and error %d", c.seed, m, errno)
		}
		if got, errno := stats.Spread(m); got != c.wantSpread || errno != api.OK {
			t.Errorf("seed %d: got the spread %d and error %d, want %d", c.seed, got, errno, c.wantSpread)
		}
		if got, errno := stats.Median(x); got != c.wantMedian || errno != api.OK {
			t.Errorf("seed %d: got the median %d and error %d, want %d", c.seed, got, errno, c.wantMedian)
		}
		if got, errno := stats.Both(x, y); got != c.covary || errno != api.OK {
			t.Errorf("seed %d: got the covariance %d and error %d, want %d", c.seed, got, errno, c.covary)
		}
	}
}

// lists calls f with every list of up to 4 elements between -2 and 2.
func lists(f func(l []int)) {
	for n := range 5 {
		pooltest.Choices(slices.Repeat([]int{5}, n), func(l []int) {
			for i := range l {
				l[i] -= 2
			}
			f(l)
		})
	}
}

// TestSmallLists holds the results for every small list against what they mean.
func TestSmallLists(t *testing.T) {
	lists(func(l []int) {
		m, errno := stats.Of(l)
		if errno != api.OK || !stats.Right(m) {
			t.Fatalf("%v: got %v and error %d", l, m, errno)
		}
		var joined api.Moments
		for _, x := range l {
			if joined, errno = stats.Join(joined, moments(1, x, x*x)); errno != api.OK {
				t.Fatalf("%v: error %d of Join", l, errno)
			}
		}
		if joined != m {
			t.Fatalf("%v: got %v, joined %v", l, m, joined)
		}
		spread, errno := stats.Spread(m)
		if want := pairs(l, l); spread != want || errno != api.OK {
			t.Fatalf("%v: got the spread %d and error %d, want %d", l, spread, errno, want)
		}
		if median, errno := stats.Median(l); len(l) > 0 && (errno != api.OK || !balanced(l, median)) {
			t.Fatalf("%v: got the median %d and error %d", l, median, errno)
		}
	})
}

// pairs returns n^2 times the covariance, by the differences of all pairs instead of the products and sums.
func pairs(x, y []int) int {
	sum := 0
	for j := range x {
		for i := range j {
			sum += (x[i] - x[j]) * (y[i] - y[j])
		}
	}
	return sum
}

// balanced reports whether twice is twice a number for which the sum of the distances of l's elements is least, and the middle of all of these.
func balanced(l []int, twice int) bool {
	var best []int
	least := math.MaxInt
	for candidate := -4; candidate <= 4; candidate++ {
		sum := 0
		for _, x := range l {
			sum += max(2*x-candidate, candidate-2*x)
		}
		if sum < least {
			best, least = nil, sum
		}
		if sum == least {
			best = append(best, candidate)
		}
	}
	return best[0]+best[len(best)-1] == 2*twice
}

// TestSmallPairs holds the covariance of every two small lists of one length against that of the differences.
func TestSmallPairs(t *testing.T) {
	lists(func(x []int) {
		if len(x) > 3 {
			return
		}
		pooltest.Choices(slices.Repeat([]int{5}, len(x)), func(y []int) {
			got, errno := stats.Both(x, y)
			if want := pairs(x, y); got != want || errno != api.OK {
				t.Fatalf("%v and %v: got %d and error %d, want %d", x, y, got, errno, want)
			}
		})
	})
}

// TestLongLists: moments of parts join to those of the whole, shifts leave Spread and Both as they are, and the order of a list doesn't matter.
func TestLongLists(t *testing.T) {
	for _, n := range []int{1, 2, 3, 50, 51, 399, 400} {
		x := weighttest.Scattered(uint64(n), n, 1000)
		y := weighttest.Scattered(uint64(n+500), n, 1000)
		whole, _ := stats.Of(x)
		for cut := 0; cut <= n; cut += 7 {
			a, _ := stats.Of(x[:cut])
			b, _ := stats.Of(x[cut:])
			if got, errno := stats.Join(a, b); got != whole || errno != api.OK {
				t.Errorf("n %d, cut at %d: got %v and error %d, want %v", n, cut, got, errno, whole)
			}
		}
		shifted := slices.Clone(x)
		for i := range shifted {
			shifted[i] -= 12345
		}
		slices.Reverse(shifted)
		m, _ := stats.Of(shifted)
		before, _ := stats.Spread(whole)
		if after, errno := stats.Spread(m); after != before || errno != api.OK {
			t.Errorf("n %d: spread %d, shifted %d and error %d", n, before, after, errno)
		}
		middle, _ := stats.Median(x)
		if after, errno := stats.Median(shifted); after != middle-2*12345 || errno != api.OK {
			t.Errorf("n %d: median %d, shifted %d and error %d", n, middle, after, errno)
		}
		slices.Reverse(shifted)
		both, _ := stats.Both(x, y)
		for _, l := range [][2][]int{{shifted, y}, {y, x}, {y, shifted}} {
			if after, errno := stats.Both(l[0], l[1]); after != both || errno != api.OK {
				t.Errorf("n %d: covariance %d, shifted or exchanged %d and error %d", n, both, after, errno)
			}
		}
		if self, _ := stats.Both(x, x); self != before {
			t.Errorf("n %d: the covariance with itself is %d, the spread %d", n, self, before)
		}
	}
}

// TestArguments: the lists and their spare capacity stay as they are.
func TestArguments(t *testing.T) {
	for _, given := range [][]int{{6, 1, 2, 9, -4, 7}, {most + 1, 5, 3, 2, 1}, {3, 2, 1, 0}, {1, 0, 5, 4}} {
		for length := range len(given) + 1 {
			whole := slices.Clone(given)
			x := whole[:length]
			other := slices.Clone(given)
			y := other[:length]
			stats.Of(x)
			stats.Median(x)
			stats.Both(x, y)
			stats.Both(y, x)
			if !slices.Equal(whole, given) || !slices.Equal(other, given) {
				t.Errorf("%v, of it %d: got %v and %v", given, length, whole, other)
			}
		}
	}
}
