package nat_test

import (
	"math/big"
	"slices"
	"testing"

	"lotdrawer/api"
	"lotdrawer/nat"
)

const top = 1<<64 - 1

type operation func(a, b []uint64) ([]uint64, api.Errno)

// repeat returns n words that all equal word.
func repeat(word uint64, n int) []uint64 {
	return slices.Repeat([]uint64{word}, n)
}

// power returns 2^(64*n).
func power(n int) []uint64 {
	return append(make([]uint64, n), 1)
}

// scattered returns n words without a pattern, the last of which is not 0.
func scattered(seed uint64, n int) []uint64 {
	a := make([]uint64, n)
	for i := range a {
		seed = seed*6364136223846793005 + 1442695040888963407
		a[i] = seed ^ seed>>29
	}
	if n > 0 {
		a[n-1] |= 1
	}
	return a
}

// operands returns valid numbers around all the lengths at which something may carry, borrow or overflow.
func operands() [][]uint64 {
	l := [][]uint64{nil, {1}, {2}, {3}, {10}, {1 << 32}, {1 << 63}, {top - 1}, {top, 1}, {0, 1 << 63}, {1, 0, 1}}
	for _, n := range []int{1, 2, 3, 4, 31, 32, 33, 62, 63, 64} {
		l = append(l, repeat(top, n), power(n-1), scattered(uint64(n), n), scattered(uint64(n)+1000, n))
	}
	return l
}

// invalid returns slices that are no numbers.
func invalid() [][]uint64 {
	return [][]uint64{{0}, {1, 0}, {0, 0}, repeat(0, 64), append(repeat(1, 63), 0), repeat(1, 65), power(64), repeat(0, 65), repeat(top, 200)}
}

func toBig(a []uint64) *big.Int {
	z := new(big.Int)
	for i := len(a) - 1; i >= 0; i-- {
		z.Lsh(z, 64)
		z.Or(z, new(big.Int).SetUint64(a[i]))
	}
	return z
}

// expected returns what a function must return whose exact result is z.
func expected(z *big.Int) ([]uint64, api.Errno) {
	if z.BitLen() > 64*api.MaxBig {
		return nil, api.ErrFull
	}
	var words []uint64
	mask := new(big.Int).SetUint64(top)
	for z = new(big.Int).Set(z); z.Sign() > 0; z.Rsh(z, 64) {
		words = append(words, new(big.Int).And(z, mask).Uint64())
	}
	return words, api.OK
}

func check(t *testing.T, what string, got []uint64, errno api.Errno, want []uint64, wantErrno api.Errno) {
	t.Helper()
	if errno != wantErrno || !slices.Equal(got, want) {
		t.Errorf("%s: got %v and error %d, want %v and error %d", what, got, errno, want, wantErrno)
	}
}

func TestRight(t *testing.T) {
	for _, a := range append(operands(), []uint64{}, repeat(1, 64), append(repeat(0, 63), 1)) {
		if !nat.Right(a) {
			t.Errorf("Right(%v) is false", a)
		}
	}
	for _, a := range invalid() {
		if nat.Right(a) {
			t.Errorf("Right(%v) is true", a)
		}
	}
}

func TestOf(t *testing.T) {
	for _, c := range []struct {
		n    uint64
		want []uint64
	}{
		{0, nil}, {1, []uint64{1}}, {5, []uint64{5}}, {1 << 63, []uint64{1 << 63}}, {top, []uint64{top}},
	} {
		if got := nat.Of(c.n); !slices.Equal(got, c.want) {
			t.Errorf("Of(%d) = %v, want %v", c.n, got, c.want)
		}
	}
}

func TestCmp(t *testing.T) {
	for _, a := range operands() {
		for _, b := range operands() {
			got, errno := nat.Cmp(a, b)
			if want := toBig(a).Cmp(toBig(b)); got != want || errno != api.OK {
				t.Errorf("Cmp(%v, %v) = %d and error %d, want %d", a, b, got, errno, want)
			}
		}
	}
	for _, c := range []struct {
		a, b []uint64
		want int
	}{
		{nil, []uint64{}, 0}, {nil, []uint64{1}, -1}, {[]uint64{5}, []uint64{5}, 0},
		{[]uint64{top}, []uint64{0, 1}, -1}, {[]uint64{1, 2}, []uint64{2, 1}, 1}, {[]uint64{1, 7}, []uint64{2, 7}, -1},
		{[]uint64{1 << 63}, []uint64{1}, 1},
	} {
		if got, errno := nat.Cmp(c.a, c.b); got != c.want || errno != api.OK {
			t.Errorf("Cmp(%v, %v) = %d and error %d, want %d", c.a, c.b, got, errno, c.want)
		}
	}
}

// testAgainst compares an operation with the exact one for all pairs of operands.
func testAgainst(t *testing.T, op operation, exact func(z, a, b *big.Int) *big.Int) {
	t.Helper()
	for _, a := range operands() {
		for _, b := range operands() {
			got, errno := op(a, b)
			z := exact(new(big.Int), toBig(a), toBig(b))
			if z.Sign() < 0 {
				check(t, "below 0", got, errno, nil, api.ErrRange)
				continue
			}
			want, wantErrno := expected(z)
			check(t, "result", got, errno, want, wantErrno)
		}
	}
}

func TestAdd(t *testing.T) {
	testAgainst(t, nat.Add, (*big.Int).Add)
	for _, c := range []struct {
		what       string
		a, b, want []uint64
		errno      api.Errno
	}{
		{"example", []uint64{top}, []uint64{1}, []uint64{0, 1}, api.OK},
		{"0 + 0", nil, []uint64{}, nil, api.OK},
		{"carry through 63 words", repeat(top, 63), []uint64{1}, power(63), api.OK},
		{"carry into word 65", repeat(top, 64), []uint64{1}, nil, api.ErrFull},
		{"carry into word 65, swapped", []uint64{1}, repeat(top, 64), nil, api.ErrFull},
		{"largest number + 0", repeat(top, 64), nil, repeat(top, 64), api.OK},
		{"largest sum", append([]uint64{top - 1}, repeat(top, 63)...), []uint64{1}, repeat(top, 64), api.OK},
	} {
		got, errno := nat.Add(c.a, c.b)
		check(t, c.what, got, errno, c.want, c.errno)
	}
}

func TestSub(t *testing.T) {
	testAgainst(t, nat.Sub, (*big.Int).Sub)
	for _, c := range []struct {
		what       string
		a, b, want []uint64
		errno      api.Errno
	}{
		{"example", []uint64{0, 1}, []uint64{1}, []uint64{top}, api.OK},
		{"equal", []uint64{3, 4}, []uint64{3, 4}, nil, api.OK},
		{"0 - 0", nil, nil, nil, api.OK},
		{"0 - 1", nil, []uint64{1}, nil, api.ErrRange},
		{"less by a low word", []uint64{3, 4}, []uint64{4, 4}, nil, api.ErrRange},
		{"fewer words", []uint64{top}, []uint64{0, 1}, nil, api.ErrRange},
		{"borrow through 63 words", power(63), []uint64{1}, repeat(top, 63), api.OK},
	} {
		got, errno := nat.Sub(c.a, c.b)
		check(t, c.what, got, errno, c.want, c.errno)
	}
}

func TestMul(t *testing.T) {
	testAgainst(t, nat.Mul, (*big.Int).Mul)
	for _, c := range []struct {
		what       string
		a, b, want []uint64
		errno      api.Errno
	}{
		{"small", []uint64{6}, []uint64{7}, []uint64{42}, api.OK},
		{"times 0", repeat(top, 64), nil, nil, api.OK},
		{"0 times", nil, repeat(top, 64), nil, api.OK},
		{"times 1", repeat(top, 64), []uint64{1}, repeat(top, 64), api.OK},
		{"two words", []uint64{top}, []uint64{top}, []uint64{1, top - 1}, api.OK},
		{"64 words of 65", power(63), []uint64{top}, append(repeat(0, 63), top), api.OK},
		{"just 65 words", power(32), power(32), nil, api.ErrFull},
		{"just 64 words", power(32), power(31), power(63), api.OK},
		{"128 words", repeat(top, 64), repeat(top, 64), nil, api.ErrFull},
	} {
		got, errno := nat.Mul(c.a, c.b)
		check(t, c.what, got, errno, c.want, c.errno)
	}
}

func TestDiv(t *testing.T) {
	divisors := []uint64{1, 2, 3, 7, 10, 1 << 32, 1<<63 - 1, 1 << 63, 1<<63 + 1, top - 1, top}
	for _, a := range operands() {
		for _, b := range divisors {
			got, rest, errno := nat.Div(a, b)
			z, r := new(big.Int).QuoRem(toBig(a), toBig([]uint64{b}), new(big.Int))
			want, _ := expected(z)
			check(t, "quotient", got, errno, want, api.OK)
			if rest != r.Uint64() {
				t.Errorf("Div(%v, %d): remainder %d, want %d", a, b, rest, r)
			}
		}
	}
	for _, c := range []struct {
		what  string
		a     []uint64
		b     uint64
		want  []uint64
		rest  uint64
		errno api.Errno
	}{
		{"example", []uint64{7}, 2, []uint64{3}, 1, api.OK},
		{"0 by 1", nil, 1, nil, 0, api.OK},
		{"less than the divisor", []uint64{5}, 6, nil, 5, api.OK},
		{"a word less", []uint64{0, 1}, 2, []uint64{1 << 63}, 0, api.OK},
		{"by 0", []uint64{7}, 0, nil, 0, api.ErrRange},
		{"0 by 0", nil, 0, nil, 0, api.ErrRange},
		{"64 words by 0", repeat(top, 64), 0, nil, 0, api.ErrRange},
		{"invalid", []uint64{7, 0}, 2, nil, 0, api.ErrForm},
		{"invalid by 0", []uint64{0}, 0, nil, 0, api.ErrForm},
		{"too long by 0", repeat(1, 65), 0, nil, 0, api.ErrForm},
	} {
		got, rest, errno := nat.Div(c.a, c.b)
		check(t, c.what, got, errno, c.want, c.errno)
		if rest != c.rest {
			t.Errorf("%s: remainder %d, want %d", c.what, rest, c.rest)
		}
	}
}

// TestInvalid: ErrForm comes first, whichever argument is invalid and whatever else is wrong.
func TestInvalid(t *testing.T) {
	for _, a := range invalid() {
		for _, b := range append(operands(), invalid()...) {
			for _, op := range []operation{nat.Add, nat.Sub, nat.Mul} {
				got, errno := op(a, b)
				check(t, "invalid first argument", got, errno, nil, api.ErrForm)
				got, errno = op(b, a)
				check(t, "invalid second argument", got, errno, nil, api.ErrForm)
			}
			if got, errno := nat.Cmp(a, b); got != 0 || errno != api.ErrForm {
				t.Errorf("Cmp(%v, %v) = %d and error %d", a, b, got, errno)
			}
			if got, errno := nat.Cmp(b, a); got != 0 || errno != api.ErrForm {
				t.Errorf("Cmp(%v, %v) = %d and error %d", b, a, got, errno)
			}
		}
		for _, b := range []uint64{0, 1, top} {
			got, rest, errno := nat.Div(a, b)
			check(t, "invalid dividend", got, errno, nil, api.ErrForm)
			if rest != 0 {
				t.Errorf("Div(%v, %d): remainder %d beside an error", a, b, rest)
			}
		}
	}
}

func TestFalling(t *testing.T) {
	for _, n := range []uint64{0, 1, 2, 3, 5, 20, 21, 65, 299, 300, 301, 1000, 1 << 20, 1 << 32, 1 << 63, top - 1, top} {
		z := big.NewInt(1)
		for many := 0; many <= 300; many++ {
			got, errno := nat.Falling(n, many)
			want, wantErrno := expected(z)
			check(t, "falling factorial", got, errno, want, wantErrno)
			factor := new(big.Int).Sub(toBig([]uint64{n}), big.NewInt(int64(many)))
			z.Mul(z, factor)
		}
	}
	for _, c := range []struct {
		what  string
		n     uint64
		many  int
		want  []uint64
		errno api.Errno
	}{
		{"example", 5, 3, []uint64{60}, api.OK},
		{"no factor", 5, 0, []uint64{1}, api.OK},
		{"no factor of 0", 0, 0, []uint64{1}, api.OK},
		{"the factor 0", 0, 1, nil, api.OK},
		{"down to 1", 5, 5, []uint64{120}, api.OK},
		{"down to 0", 5, 6, nil, api.OK},
		{"past 0", 2, 300, nil, api.OK},
		{"0, and many", 299, 300, nil, api.OK},
		{"one factor", top, 1, []uint64{top}, api.OK},
		{"two words", top, 2, []uint64{2, top - 2}, api.OK},
		{"65 words", top, 65, nil, api.ErrFull},
		{"most factors", top, 300, nil, api.ErrFull},
		{"too few factors", 5, -1, nil, api.ErrRange},
		{"too many factors", 5, 301, nil, api.ErrRange},
		{"too many factors of 0", 0, 301, nil, api.ErrRange},
		{"too many factors of the largest", top, 301, nil, api.ErrRange},
		{"least number of factors", top, -1 << 63, nil, api.ErrRange},
		{"largest number of factors", top, 1<<63 - 1, nil, api.ErrRange},
	} {
		got, errno := nat.Falling(c.n, c.many)
		check(t, c.what, got, errno, c.want, c.errno)
	}
	if got, errno := nat.Falling(top, 64); errno != api.OK || len(got) != 64 {
		t.Errorf("64 words: got %d words and error %d", len(got), errno)
	}
}

// spare returns a with spare capacity that is filled with word.
func spare(a []uint64, word uint64) []uint64 {
	return append(slices.Clone(a), repeat(word, 70)...)[:len(a)]
}

// everything calls all functions that take slices and returns the slices that they return.
func everything(a, b []uint64) [][]uint64 {
	sum, _ := nat.Add(a, b)
	difference, _ := nat.Sub(a, b)
	product, _ := nat.Mul(a, b)
	quotient, rest, _ := nat.Div(a, 3)
	order, _ := nat.Cmp(a, b)
	right := uint64(0)
	if nat.Right(a) {
		right = 1
	}
	return [][]uint64{sum, difference, product, quotient, {rest, uint64(order), right}}
}

// TestArguments: no argument is changed, its spare capacity is neither read nor changed, and no result shares its memory.
func TestArguments(t *testing.T) {
	for _, a := range append(operands(), invalid()...) {
		for _, b := range append(operands(), []uint64{0}) {
			left, right := spare(a, top), spare(b, top)
			got := everything(left, right)
			want := everything(slices.Clip(slices.Clone(a)), slices.Clip(slices.Clone(b)))
			if !slices.EqualFunc(got, want, slices.Equal[[]uint64]) {
				t.Errorf("spare capacity changes the results for %v and %v", a, b)
			}
			for _, result := range got {
				clear(result[:cap(result)])
			}
			intact := slices.Equal(left, a) && slices.Equal(right, b) &&
				slices.Equal(left[len(a):len(a)+70], repeat(top, 70)) && slices.Equal(right[len(b):len(b)+70], repeat(top, 70))
			if !intact {
				t.Errorf("arguments changed, or shared with a result, for %v and %v", a, b)
			}
		}
	}
}
