package perm_test

import (
	"math"
	"slices"
	"testing"

	"lotdrawer/api"
	"lotdrawer/perm"
)

// factorial20 is the number of permutations of MaxSmall elements.
const factorial20 = 2432902008176640000

// identity returns the numbers 0 to n-1 in order.
func identity(n int) []int {
	p := make([]int, n)
	for k := range p {
		p[k] = k
	}
	return p
}

// reversed returns the numbers n-1 to 0, the last permutation of n elements.
func reversed(n int) []int {
	p := identity(n)
	slices.Reverse(p)
	return p
}

// all returns every permutation of n elements in lexicographic order: each first element with each permutation of the rest.
func all(n int) [][]int {
	var extend func(start, rest []int)
	var found [][]int
	extend = func(start, rest []int) {
		if len(rest) == 0 {
			found = append(found, slices.Clone(start))
		}
		for i, element := range rest {
			extend(append(slices.Clone(start), element), slices.Delete(slices.Clone(rest), i, i+1))
		}
	}
	extend(nil, identity(n))
	return found
}

// choices returns every list of choices for Deal of a length.
func choices(length int) [][]int {
	lists := [][]int{nil}
	for k := range length {
		var longer [][]int
		for _, d := range lists {
			for choice := range k + 1 {
				longer = append(longer, append(slices.Clone(d), choice))
			}
		}
		lists = longer
	}
	return lists
}

// scattered returns permutations of MaxSmall elements with ranks from all over the range.
func scattered(t *testing.T) (ranks []int, found [][]int) {
	const step = factorial20/200 + 12345677
	for r := 0; r < factorial20; r += step {
		p, errno := perm.At(api.MaxSmall, r)
		if errno != api.OK {
			t.Fatalf("At(20, %d): got error %d", r, errno)
		}
		ranks = append(ranks, r)
		found = append(found, p)
	}
	return ranks, found
}

// invalid returns slices that are no permutations, or too long.
func invalid() [][]int {
	repeated := identity(20)
	repeated[19] = 0
	return [][]int{
		{1},
		{-1},
		{0, 0},
		{1, 1},
		{1, 2},
		{0, 2},
		{2, 0},
		{0, -1},
		{0, 1, 3},
		{1, 0, 1},
		{0, 2, 2},
		{3, 1, 0},
		{-1, 0, 1},
		{0, 1, math.MaxInt},
		{math.MinInt, 1, 0},
		repeated,
		identity(21), // a permutation, but too long
		reversed(21),
		identity(1000),
		make([]int, 21),
	}
}

// check reports a result that isn't the one expected.
func check(t *testing.T, what string, got []int, errno api.Errno, want []int, wantErrno api.Errno) {
	t.Helper()
	if !slices.Equal(got, want) || errno != wantErrno {
		t.Errorf("%s: got %v and error %d, want %v and error %d", what, got, errno, want, wantErrno)
	}
}

func TestRight(t *testing.T) {
	for n := range api.MaxSmall + 1 {
		if !perm.Right(identity(n)) || !perm.Right(reversed(n)) {
			t.Errorf("%d elements: not valid", n)
		}
	}
	if !perm.Right(nil) || !perm.Right([]int{}) {
		t.Error("no elements: not valid")
	}
	for _, p := range invalid() {
		if perm.Right(p) {
			t.Errorf("%v: valid", p)
		}
	}
}

// TestRightCounts goes through all slices of numbers from -1 to n: exactly the n! permutations are valid.
func TestRightCounts(t *testing.T) {
	factorial := 1
	for n := 1; n <= 5; n++ {
		factorial *= n
		slicesOf, valid := 1, 0
		for range n {
			slicesOf *= n + 2
		}
		for number := range slicesOf {
			p := make([]int, n)
			for k := range p {
				p[k] = number%(n+2) - 1
				number /= n + 2
			}
			if perm.Right(p) {
				valid++
			}
		}
		if valid != factorial {
			t.Errorf("%d elements: got %d valid ones, want %d", n, valid, factorial)
		}
	}
}

func TestDeal(t *testing.T) {
	for _, c := range []struct {
		what  string
		d     []int
		want  []int
		errno api.Errno
	}{
		{"the document's example", []int{0, 0, 1}, []int{2, 0, 1}, api.OK},
		{"nil", nil, nil, api.OK},
		{"empty", []int{}, nil, api.OK},
		{"one element", []int{0}, []int{0}, api.OK},
		{"exchange", []int{0, 0}, []int{1, 0}, api.OK},
		{"no exchange", []int{0, 1}, []int{0, 1}, api.OK},
		{"first exchange is the last position's", []int{0, 0, 0}, []int{1, 2, 0}, api.OK},
		{"four", []int{0, 1, 0, 1}, []int{2, 3, 0, 1}, api.OK},
		{"each element stays", identity(20), identity(20), api.OK},
		{"each position exchanges with the first", make([]int, 20), append(identity(20)[1:], 0), api.OK},
		{"too long", identity(21), nil, api.ErrRange},
		{"too long, and zeros", make([]int, 21), nil, api.ErrRange},
		{"too long by far", make([]int, 1000), nil, api.ErrRange},
		{"above the first position", []int{1}, nil, api.ErrRange},
		{"above a position", []int{0, 2}, nil, api.ErrRange},
		{"above a middle position", []int{0, 2, 0}, nil, api.ErrRange},
		{"below 0", []int{-1}, nil, api.ErrRange},
		{"below 0 at the end", []int{0, 1, -1}, nil, api.ErrRange},
		{"least", []int{0, math.MinInt}, nil, api.ErrRange},
		{"largest", []int{0, 0, math.MaxInt}, nil, api.ErrRange},
	} {
		got, errno := perm.Deal(c.d)
		check(t, c.what, got, errno, c.want, c.errno)
	}
}

// TestDealIsUniform: every permutation is dealt by exactly one list of choices.
func TestDealIsUniform(t *testing.T) {
	for n := range 8 {
		var dealt [][]int
		for _, d := range choices(n) {
			p, errno := perm.Deal(d)
			if errno != api.OK {
				t.Fatalf("Deal(%v): got error %d", d, errno)
			}
			dealt = append(dealt, p)
		}
		slices.SortFunc(dealt, slices.Compare[[]int])
		if !slices.EqualFunc(dealt, all(n), slices.Equal[[]int]) {
			t.Errorf("%d elements: not every permutation is dealt once", n)
		}
	}
}

// TestDealPutsChoiceLast follows the shuffle from its end: the element at the last position is the one chosen there.
func TestDealPutsChoiceLast(t *testing.T) {
	for n := 1; n <= 6; n++ {
		for _, d := range choices(n) {
			left := identity(n)
			want := make([]int, n)
			for k := n - 1; k >= 0; k-- {
				want[k] = left[d[k]]
				left[d[k]] = left[k]
				left = left[:k]
			}
			got, errno := perm.Deal(d)
			check(t, "shuffle", got, errno, want, api.OK)
		}
	}
}

func TestCode(t *testing.T) {
	for _, c := range []struct {
		what  string
		p     []int
		want  []int
		errno api.Errno
	}{
		{"the document's example", []int{2, 0, 1}, []int{2, 0, 0}, api.OK},
		{"nil", nil, nil, api.OK},
		{"empty", []int{}, nil, api.OK},
		{"one element", []int{0}, []int{0}, api.OK},
		{"inverse of the example", []int{1, 2, 0}, []int{1, 1, 0}, api.OK},
		{"five", []int{3, 1, 4, 0, 2}, []int{3, 1, 2, 0, 0}, api.OK},
		{"first", identity(20), make([]int, 20), api.OK},
		{"last", reversed(20), reversed(20), api.OK},
	} {
		got, errno := perm.Code(c.p)
		check(t, c.what, got, errno, c.want, c.errno)
	}
}

// TestCodesDiffer: the codes of the permutations, in their order, are all the lists of digits, in order.
func TestCodesDiffer(t *testing.T) {
	for n := range 8 {
		want := choices(n) // as many for position k as a code has for position n-1-k
		for _, digits := range want {
			slices.Reverse(digits)
		}
		slices.SortFunc(want, slices.Compare[[]int])
		for i, p := range all(n) {
			got, errno := perm.Code(p)
			check(t, "code", got, errno, want[i], api.OK)
		}
	}
}

func TestThen(t *testing.T) {
	for _, c := range []struct {
		what  string
		p, q  []int
		want  []int
		errno api.Errno
	}{
		{"inverses", []int{1, 2, 0}, []int{2, 0, 1}, []int{0, 1, 2}, api.OK},
		{"q of p", []int{1, 0, 2}, []int{0, 2, 1}, []int{2, 0, 1}, api.OK},
		{"the other order", []int{0, 2, 1}, []int{1, 0, 2}, []int{1, 2, 0}, api.OK},
		{"nil and empty", nil, []int{}, nil, api.OK},
		{"empty and nil", []int{}, nil, nil, api.OK},
		{"one element", []int{0}, []int{0}, []int{0}, api.OK},
		{"the last twice", reversed(20), reversed(20), identity(20), api.OK},
		{"p shorter", []int{0, 1}, []int{0, 1, 2}, nil, api.ErrForm},
		{"q shorter", []int{0, 1, 2}, []int{1, 0}, nil, api.ErrForm},
		{"p empty", nil, []int{0}, nil, api.ErrForm},
		{"q empty", []int{0}, nil, nil, api.ErrForm},
	} {
		got, errno := perm.Then(c.p, c.q)
		check(t, c.what, got, errno, c.want, c.errno)
	}
}

// TestThenFollowsElements: composing moves each position to q[p[k]], for all pairs.
func TestThenFollowsElements(t *testing.T) {
	for n := range 6 {
		for _, p := range all(n) {
			for _, q := range all(n) {
				want := make([]int, n)
				for k := range want {
					want[k] = q[p[k]]
				}
				got, errno := perm.Then(p, q)
				check(t, "composition", got, errno, want, api.OK)
			}
		}
	}
}

func TestBack(t *testing.T) {
	for _, c := range []struct {
		what string
		p    []int
		want []int
	}{
		{"three", []int{1, 2, 0}, []int{2, 0, 1}},
		{"four", []int{3, 0, 2, 1}, []int{1, 3, 2, 0}},
		{"nil", nil, nil},
		{"empty", []int{}, nil},
		{"one element", []int{0}, []int{0}},
		{"first", identity(20), identity(20)},
		{"last", reversed(20), reversed(20)},
	} {
		got, errno := perm.Back(c.p)
		check(t, c.what, got, errno, c.want, api.OK)
	}
}

// TestBackUndoes: a permutation and its inverse compose to the identity, in either order.
func TestBackUndoes(t *testing.T) {
	_, cases := scattered(t)
	for n := range 8 {
		cases = append(cases, all(n)...)
	}
	for _, p := range cases {
		back, errno := perm.Back(p)
		if errno != api.OK {
			t.Errorf("Back(%v): got error %d", p, errno)
		}
		got, errno := perm.Then(p, back)
		check(t, "there and back", got, errno, identity(len(p)), api.OK)
		got, errno = perm.Then(back, p)
		check(t, "back and there", got, errno, identity(len(p)), api.OK)
	}
}

func TestRank(t *testing.T) {
	swapped := identity(20)
	swapped[18], swapped[19] = 19, 18
	for _, c := range []struct {
		p    []int
		want int
	}{
		{[]int{2, 0, 1}, 4}, // the document's example
		{nil, 0},
		{[]int{}, 0},
		{[]int{0}, 0},
		{[]int{1, 0}, 1},
		{[]int{2, 1, 0}, 5},
		{[]int{3, 1, 4, 0, 2}, 3*24 + 1*6 + 2*2},
		{identity(20), 0},
		{swapped, 1},
		{append([]int{19}, identity(19)...), factorial20 / 20 * 19},
		{reversed(20), factorial20 - 1},
	} {
		got, errno := perm.Rank(c.p)
		if got != c.want || errno != api.OK {
			t.Errorf("Rank(%v): got %d and error %d, want %d", c.p, got, errno, c.want)
		}
	}
}

func TestAt(t *testing.T) {
	for _, c := range []struct {
		n, r  int
		want  []int
		errno api.Errno
	}{
		{3, 4, []int{2, 0, 1}, api.OK}, // the document's example
		{0, 0, nil, api.OK},
		{1, 0, []int{0}, api.OK},
		{2, 1, []int{1, 0}, api.OK},
		{3, 5, []int{2, 1, 0}, api.OK},
		{5, 3*24 + 1*6 + 2*2, []int{3, 1, 4, 0, 2}, api.OK},
		{20, 0, identity(20), api.OK},
		{20, factorial20 / 20 * 19, append([]int{19}, identity(19)...), api.OK},
		{20, factorial20 - 1, reversed(20), api.OK},
		{0, 1, nil, api.ErrNone},
		{1, 1, nil, api.ErrNone},
		{2, 2, nil, api.ErrNone},
		{3, 6, nil, api.ErrNone},
		{3, 7, nil, api.ErrNone},
		{3, 10, nil, api.ErrNone}, // its last digits alone would be those of 4
		{19, factorial20 / 20, nil, api.ErrNone},
		{20, factorial20, nil, api.ErrNone},
		{20, factorial20 + 1, nil, api.ErrNone},
		{20, math.MaxInt, nil, api.ErrNone},
		{0, math.MaxInt, nil, api.ErrNone},
		{21, 0, nil, api.ErrRange},
		{-1, 0, nil, api.ErrRange},
		{math.MaxInt, 0, nil, api.ErrRange},
		{math.MinInt, 0, nil, api.ErrRange},
		{3, -1, nil, api.ErrRange},
		{0, -1, nil, api.ErrRange},
		{20, math.MinInt, nil, api.ErrRange},
		{-1, -1, nil, api.ErrRange},
		{-1, 1, nil, api.ErrRange}, // ErrRange is checked before ErrNone
		{21, math.MaxInt, nil, api.ErrRange},
	} {
		got, errno := perm.At(c.n, c.r)
		if !slices.Equal(got, c.want) || errno != c.errno {
			t.Errorf("At(%d, %d): got %v and error %d, want %v and error %d", c.n, c.r, got, errno, c.want, c.errno)
		}
	}
}

// TestRanksAreInOrder goes through all permutations of few elements in their order.
func TestRanksAreInOrder(t *testing.T) {
	for n := range 9 {
		list := all(n)
		for r, p := range list {
			rank, errno := perm.Rank(p)
			if rank != r || errno != api.OK {
				t.Errorf("Rank(%v): got %d and error %d, want %d", p, rank, errno, r)
			}
			got, errno := perm.At(n, r)
			check(t, "permutation at its rank", got, errno, p, api.OK)
		}
		got, errno := perm.At(n, len(list))
		check(t, "past the last", got, errno, nil, api.ErrNone)
	}
}

// TestRanksOfMany takes ranks from all over the range of 20 elements: they come back, and in order.
func TestRanksOfMany(t *testing.T) {
	ranks, list := scattered(t)
	for i, p := range list {
		rank, errno := perm.Rank(p)
		if rank != ranks[i] || errno != api.OK {
			t.Errorf("Rank(%v): got %d and error %d, want %d", p, rank, errno, ranks[i])
		}
		if i > 0 && slices.Compare(list[i-1], p) >= 0 {
			t.Errorf("%v of rank %d doesn't come before %v of rank %d", list[i-1], ranks[i-1], p, ranks[i])
		}
	}
}

func TestInvalid(t *testing.T) {
	for _, p := range invalid() {
		code, errno := perm.Code(p)
		check(t, "Code", code, errno, nil, api.ErrForm)
		back, errno := perm.Back(p)
		check(t, "Back", back, errno, nil, api.ErrForm)
		if rank, errno := perm.Rank(p); rank != 0 || errno != api.ErrForm {
			t.Errorf("Rank(%v): got %d and error %d", p, rank, errno)
		}
		for _, q := range append(invalid(), nil, identity(len(p)), reversed(20)) {
			both, errno := perm.Then(p, q)
			check(t, "Then of an invalid p", both, errno, nil, api.ErrForm)
			both, errno = perm.Then(q, p)
			check(t, "Then of an invalid q", both, errno, nil, api.ErrForm)
		}
	}
}

// everything calls all functions that take slices and returns what they return.
func everything(p, q []int) [][]int {
	dealt, dealErrno := perm.Deal(p)
	code, codeErrno := perm.Code(p)
	back, backErrno := perm.Back(p)
	both, bothErrno := perm.Then(p, q)
	rank, rankErrno := perm.Rank(p)
	right := 0
	if perm.Right(p) {
		right = 1
	}
	errnos := []int{int(dealErrno), int(codeErrno), int(backErrno), int(bothErrno), int(rankErrno)}
	return [][]int{dealt, code, back, both, {rank, right}, errnos}
}

// TestArguments: no argument is changed, its spare capacity is neither read nor changed, and no result shares its memory.
func TestArguments(t *testing.T) {
	for _, c := range []struct{ p, q, spare []int }{
		{[]int{}, []int{}, []int{0, 1}},
		{[]int{0}, []int{0}, []int{1, 0}},
		{[]int{0, 1, 2}, []int{0, 1, 2}, []int{3, 4}}, // every result but the code equals an argument
		{[]int{0, 0, 1}, []int{0, 1, 2}, []int{2, 2}},
		{[]int{2, 0, 1}, []int{1, 2, 0}, []int{3, -1}},
		{[]int{3, 1, 0, 2}, []int{0, 1, 2, 3}, []int{0, 0}},
		{[]int{0, 1, 3}, []int{0, 1, 2}, []int{2, 2}},
		{[]int{1, 2}, []int{0}, []int{0, 1}},
		{identity(20), reversed(20), []int{20, 21}},
	} {
		p, q := slices.Concat(c.p, c.spare), slices.Concat(c.q, c.spare)
		got := everything(p[:len(c.p)], q[:len(c.q)])
		want := everything(slices.Clip(slices.Clone(c.p)), slices.Clip(slices.Clone(c.q)))
		if !slices.EqualFunc(got, want, slices.Equal[[]int]) {
			t.Errorf("%v and %v: the spare capacity changes the results", c.p, c.q)
		}
		for _, result := range got {
			for i := range result[:cap(result)] {
				result[:cap(result)][i] = -9
			}
		}
		if !slices.Equal(p, slices.Concat(c.p, c.spare)) || !slices.Equal(q, slices.Concat(c.q, c.spare)) {
			t.Errorf("%v and %v: changed, or shared with a result", c.p, c.q)
		}
	}
}
