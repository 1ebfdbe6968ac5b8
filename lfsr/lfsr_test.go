package lfsr_test

import (
	"math"
	"slices"
	"testing"

	"lotdrawer/api"
	"lotdrawer/lfsr"
)

// register is a state of a register.
type register struct {
	n           int
	taps, state uint32
}

// every calls f with all states of all valid registers of up to n bits.
func every(n int, f func(r register)) {
	for size := 1; size <= n; size++ {
		for taps := uint32(1) << (size - 1); taps < 1<<size; taps++ {
			for state := uint32(0); state < 1<<size; state++ {
				f(register{size, taps, state})
			}
		}
	}
}

// scattered returns states of registers of every size without a pattern, and of each size those with no bits, one bit and all bits.
func scattered() []register {
	var l []register
	seed := uint64(14)
	for n := 1; n <= 20; n++ {
		top := uint32(1) << (n - 1)
		all := top | (top - 1)
		for range 50 {
			seed = seed*6364136223846793005 + 1442695040888963407
			l = append(l, register{n, uint32(seed>>40)&all | top, uint32(seed>>16) & all})
		}
		for _, taps := range []uint32{top, top | 1, all} {
			l = append(l, register{n, taps, 0}, register{n, taps, all})
			for bit := range n {
				l = append(l, register{n, taps, 1 << bit}, register{n, taps, all &^ (1 << bit)})
			}
		}
	}
	return l
}

// unfit is registers and states that are not valid.
var unfit = []register{
	{0, 0, 0}, {0, 1, 0}, {-1, 0, 0}, {-1, 1, 0}, {-20, 1, 0}, {math.MinInt, 1, 0}, {math.MinInt + 1, 1, 0},
	{21, 1 << 20, 1}, {22, 1 << 21, 1}, {31, 1 << 30, 1}, {32, 1 << 31, 1}, {33, 1, 1}, {64, 1, 1}, {65, 1, 1}, {1<<32 + 4, 12, 1}, {math.MaxInt, 1, 1},
	{1, 0, 0}, {1, 2, 0}, {1, 3, 0}, {4, 0, 1}, {4, 1, 1}, {4, 7, 1}, {4, 16, 1}, {4, 24, 1}, {4, 31, 1}, {4, 1<<31 | 12, 1}, {4, math.MaxUint32, 1},
	{20, 0, 1}, {20, 1<<19 - 1, 1}, {20, 1 << 20, 1}, {20, 1<<20 | 1<<19, 1}, {20, math.MaxUint32, 1},
	{1, 1, 2}, {1, 1, 3}, {4, 12, 16}, {4, 12, 17}, {4, 12, 1 << 31}, {4, 12, math.MaxUint32},
	{20, 1 << 19, 1 << 20}, {20, 1 << 19, 1<<20 | 1}, {20, 1 << 19, math.MaxUint32},
}

// outside is numbers of states that are out of range for Row, and beyond is numbers of steps that are for Jump.
var (
	outside = []int{-1, -2, -400, math.MinInt, math.MinInt + 1, 401, 402, 1<<32 + 1, api.MaxCount, math.MaxInt}
	beyond  = []int{-1, -2, -15, math.MinInt, math.MinInt + 1, api.MaxCount + 1, api.MaxCount + 15, 1 << 50, math.MaxInt}
)

// TestRight: with all small n and taps, and at the limits, also where n or taps would be valid but for the other.
func TestRight(t *testing.T) {
	for n := -3; n <= 9; n++ {
		for taps := range uint32(1 << 10) {
			want := false
			if n >= 1 {
				want = taps < 1<<n && taps&(1<<(n-1)) != 0
			}
			if got := lfsr.Right(n, taps); got != want {
				t.Errorf("%d, %#b: got %t, want %t", n, taps, got, want)
			}
		}
	}
	for _, c := range []struct {
		n    int
		taps uint32
		want bool
	}{
		{20, 1 << 19, true}, {20, 1<<20 - 1, true}, {20, 1<<19 | 1<<16, true},
		{20, 1<<19 - 1, false}, {20, 1 << 20, false}, {20, 1<<20 | 1<<19, false}, {20, 0, false}, {20, math.MaxUint32, false},
		{19, 1 << 19, false}, {19, 1 << 18, true}, {19, 1<<19 - 1, true},
		{21, 1 << 20, false}, {21, 1<<21 - 1, false}, {21, 1 << 19, false}, {32, 1 << 31, false}, {32, math.MaxUint32, false},
		{33, 1, false}, {33, 0, false}, {64, 1, false}, {65, 1, false}, {1<<32 + 1, 1, false}, {math.MaxInt, 1, false},
		{0, 0, false}, {0, 1, false}, {-1, 1, false}, {-31, 1, false}, {-63, 1, false}, {math.MinInt, 1, false}, {math.MinInt + 1, 1, false},
		{4, 1<<31 | 8, false}, {1, 1<<31 | 1, false},
	} {
		if got := lfsr.Right(c.n, c.taps); got != c.want {
			t.Errorf("%d, %#x: got %t, want %t", c.n, c.taps, got, c.want)
		}
	}
}

// TestStep has values worked out apart from the program; Back leads from each next state to its state.
func TestStep(t *testing.T) {
	for _, c := range []struct {
		register
		next uint32
	}{
		{register{4, 12, 8}, 1}, {register{4, 12, 1}, 2}, {register{4, 12, 0}, 0},
		{register{4, 12, 15}, 14}, {register{4, 12, 12}, 8},
		{register{1, 1, 0}, 0}, {register{1, 1, 1}, 1},
		{register{2, 2, 1}, 2}, {register{2, 2, 2}, 1}, {register{2, 3, 3}, 2},
		{register{8, 0xb8, 0x80}, 1}, {register{8, 0xb8, 0xff}, 0xfe}, {register{8, 0x80, 0xa5}, 0x4b},
		{register{19, 0x72000, 0x40001}, 3},
		{register{20, 0x90000, 0xabcde}, 0x579bd}, {register{20, 0x90000, 0x80000}, 1},
		{register{20, 0xfffff, 0xfffff}, 0xffffe}, {register{20, 0xfffff, 0x7ffff}, 0xfffff},
		{register{20, 0x80000, 0xfffff}, 0xfffff}, {register{20, 0x80000, 0x12345}, 0x2468a},
	} {
		if got, errno := lfsr.Step(c.n, c.taps, c.state); got != c.next || errno != api.OK {
			t.Errorf("%#x: got %#x and error %d, want %#x", c.register, got, errno, c.next)
		}
		if got, errno := lfsr.Back(c.n, c.taps, c.next); got != c.state || errno != api.OK {
			t.Errorf("%#x: back from %#x: got %#x and error %d", c.register, c.next, got, errno)
		}
	}
}

// modelStep makes the next state bit by bit, as the document words it.
func modelStep(r register) uint32 {
	next := uint32(0)
	for k := range r.n {
		bit := r.state >> k & 1
		if r.taps>>k&1 == 1 {
			next ^= bit
		}
		if k+1 < r.n {
			next |= bit << (k + 1)
		}
	}
	return next
}

// checkStep compares one step with the model, and takes it back; and a step back, and goes on from there.
func checkStep(t *testing.T, r register) {
	next, errno := lfsr.Step(r.n, r.taps, r.state)
	if want := modelStep(r); next != want || errno != api.OK {
		t.Fatalf("step from %#x: got %#x and error %d, want %#x", r, next, errno, want)
	}
	if got, errno := lfsr.Back(r.n, r.taps, next); got != r.state || errno != api.OK {
		t.Fatalf("back from the step from %#x: got %#x and error %d", r, got, errno)
	}
	before, errno := lfsr.Back(r.n, r.taps, r.state)
	if errno != api.OK || before>>r.n != 0 || modelStep(register{r.n, r.taps, before}) != r.state {
		t.Fatalf("back from %#x: got %#x and error %d, which does not lead there", r, before, errno)
	}
}

// TestStepAndBack: all small registers, and scattered ones of every size, step as the document words it, and back.
func TestStepAndBack(t *testing.T) {
	every(8, func(r register) { checkStep(t, r) })
	for _, r := range scattered() {
		checkStep(t, r)
	}
}

// TestStepsPermute: the next states of all states of a register are all its states, in another order.
func TestStepsPermute(t *testing.T) {
	for n := 1; n <= 8; n++ {
		for taps := uint32(1) << (n - 1); taps < 1<<n; taps++ {
			came := make([]bool, 1<<n)
			for state := range uint32(1 << n) {
				next, _ := lfsr.Step(n, taps, state)
				came[next] = true
			}
			if slices.Contains(came, false) {
				t.Errorf("%d, %#b: two states have the same next one", n, taps)
			}
		}
	}
}

// TestPeriod has the document's example and values worked out apart from the program.
func TestPeriod(t *testing.T) {
	for _, c := range []struct {
		register
		want int
	}{
		{register{1, 1, 0}, 1}, {register{1, 1, 1}, 1},
		{register{2, 3, 1}, 3}, {register{2, 2, 1}, 2}, {register{2, 2, 3}, 1},
		{register{3, 6, 1}, 7}, {register{3, 4, 1}, 3}, {register{3, 4, 7}, 1},
		{register{4, 12, 0}, 1}, {register{4, 9, 1}, 15}, {register{4, 15, 1}, 5}, {register{4, 15, 15}, 5},
		{register{4, 8, 5}, 2}, {register{4, 8, 15}, 1},
		{register{5, 0x14, 1}, 31}, {register{6, 0x30, 1}, 63}, {register{8, 0xb8, 1}, 255},
		{register{16, 0xd008, 1}, 65535}, {register{19, 0x72000, 1}, 524287},
		{register{20, 0x90000, 1}, 1048575}, {register{20, 0x90000, 0xfffff}, 1048575}, {register{20, 0x90000, 0}, 1},
		{register{20, 0x80000, 1}, 20}, {register{20, 0x80000, 0xaaaaa}, 2}, {register{20, 0x80000, 0xfffff}, 1},
		{register{20, 0xfffff, 1}, 21}, {register{20, 0x80001, 1}, 761763}, {register{20, 0xc0000, 1}, 761763},
	} {
		if got, errno := lfsr.Period(c.n, c.taps, c.state); got != c.want || errno != api.OK {
			t.Errorf("%#x: got %d and error %d, want %d", c.register, got, errno, c.want)
		}
	}
	for state := uint32(1); state < 16; state++ {
		if got, errno := lfsr.Period(4, 0b1100, state); got != 15 || errno != api.OK {
			t.Errorf("the example, state %d: got %d and error %d, want 15", state, got, errno)
		}
	}
}

// modelPeriod counts steps of the model until the state recurs.
func modelPeriod(r register) int {
	start := r.state
	for steps := 1; ; steps++ {
		r.state = modelStep(r)
		if r.state == start {
			return steps
		}
	}
}

// TestPeriodIsFirst: the states of all small registers recur after their periods, and not before.
func TestPeriodIsFirst(t *testing.T) {
	every(7, func(r register) {
		want := modelPeriod(r)
		if got, errno := lfsr.Period(r.n, r.taps, r.state); got != want || errno != api.OK {
			t.Fatalf("%#x: got %d and error %d, want %d", r, got, errno, want)
		}
	})
}

// digits writes bits as digits 0 and 1.
func digits(l []bool) string {
	text := make([]byte, len(l))
	for i, bit := range l {
		text[i] = '0'
		if bit {
			text[i] = '1'
		}
	}
	return string(text)
}

// TestRow has rows worked out apart from the program.
func TestRow(t *testing.T) {
	for _, c := range []struct {
		register
		want string
	}{
		{register{4, 12, 8}, ""}, {register{4, 12, 8}, "1"}, {register{4, 12, 8}, "100"}, {register{4, 12, 7}, "0"},
		{register{4, 12, 8}, "1000100110101111"}, {register{4, 12, 1}, "00010011010111100010"}, {register{4, 12, 0}, "00000000"},
		{register{1, 1, 0}, "00000"}, {register{1, 1, 1}, "11111"},
		{register{8, 0xb8, 1}, "0000000100011100010010111000000110010010"},
		{register{20, 0x90000, 0xabcde}, "101010111100110111101111010110100010100101011000101101100011"},
	} {
		got, errno := lfsr.Row(c.n, c.taps, c.state, len(c.want))
		if digits(got) != c.want || errno != api.OK {
			t.Errorf("%#x: got %s and error %d, want %s", c.register, digits(got), errno, c.want)
		}
	}
}

// modelRow reads the highest bit of so many states of the model.
func modelRow(r register, many int) []bool {
	var row []bool
	for range many {
		row = append(row, r.state&(1<<(r.n-1)) != 0)
		r.state = modelStep(r)
	}
	return row
}

// TestRowReadsStates: the rows of all small registers and of scattered ones are those of the model, up to the longest.
func TestRowReadsStates(t *testing.T) {
	check := func(r register, many int) {
		want := modelRow(r, many)
		if got, errno := lfsr.Row(r.n, r.taps, r.state, many); !slices.Equal(got, want) || errno != api.OK {
			t.Fatalf("%#x, %d: got %s and error %d, want %s", r, many, digits(got), errno, digits(want))
		}
	}
	every(5, func(r register) {
		for many := range 40 {
			check(r, many)
		}
	})
	for _, r := range scattered() {
		for _, many := range []int{0, 1, r.n - 1, r.n, r.n + 1, 63, 64, 65, 399, 400} {
			check(r, many)
		}
	}
}

// TestRowHasEachWord: where all states but 0 recur together, each word of n bits but 0 is once in a row of one period, taken as a ring.
func TestRowHasEachWord(t *testing.T) {
	for _, r := range []register{{2, 3, 1}, {3, 6, 5}, {4, 12, 9}, {5, 0x14, 1}, {6, 0x30, 33}, {8, 0xb8, 77}} {
		period := 1<<r.n - 1
		ring, errno := lfsr.Row(r.n, r.taps, r.state, period+r.n-1)
		if errno != api.OK {
			t.Fatalf("%#x: error %d", r, errno)
		}
		words := map[string]bool{}
		for i := range period {
			words[digits(ring[i:i+r.n])] = true
		}
		if len(words) != period || words[digits(make([]bool, r.n))] {
			t.Errorf("%#x: %d words", r, len(words))
		}
	}
}

// TestJump has values worked out apart from the program, by multiplying matrices.
func TestJump(t *testing.T) {
	for _, c := range []struct {
		register
		by   int
		want uint32
	}{
		{register{4, 12, 1}, 0, 1}, {register{4, 12, 1}, 1, 2}, {register{4, 12, 8}, 1, 1},
		{register{4, 12, 1}, 15, 1}, {register{4, 12, 1}, api.MaxCount, 2}, {register{4, 12, 1}, api.MaxCount - 1, 1},
		{register{4, 12, 0}, api.MaxCount, 0}, {register{1, 1, 1}, api.MaxCount, 1}, {register{1, 1, 0}, api.MaxCount, 0},
		{register{8, 0xb8, 1}, 1000000000000, 0x79},
		{register{19, 0x72000, 0x40001}, 1000000000007, 0x25368},
		{register{20, 0x90000, 1}, api.MaxCount, 2}, {register{20, 0x90000, 1}, api.MaxCount - 1, 1},
		{register{20, 0x90000, 0xabcde}, 1000000, 0x5c074},
		{register{20, 0x90000, 0xabcde}, 1048574, 0xd5e6f}, {register{20, 0x90000, 0xabcde}, 1048575, 0xabcde},
		{register{20, 0x90000, 0xabcde}, 1048576, 0x579bd},
		{register{20, 0xfffff, 0x12345}, api.MaxCount, 0x5891a}, {register{20, 0x80000, 0x12345}, api.MaxCount, 0x51234},
		{register{20, 0xc0000, 0x12345}, 987654321, 0x32ea3},
	} {
		if got, errno := lfsr.Jump(c.n, c.taps, c.state, c.by); got != c.want || errno != api.OK {
			t.Errorf("%#x by %d: got %#x and error %d, want %#x", c.register, c.by, got, errno, c.want)
		}
	}
}

// TestJumpIsSteps: with all small registers, jumps of up to more than twice as many steps as there are states lead where the steps of the model do.
func TestJumpIsSteps(t *testing.T) {
	every(5, func(r register) {
		at := r
		for by := range 70 {
			if got, errno := lfsr.Jump(r.n, r.taps, r.state, by); got != at.state || errno != api.OK {
				t.Fatalf("%#x by %d: got %#x and error %d, want %#x", r, by, got, errno, at.state)
			}
			at.state = modelStep(at)
		}
	})
	for _, r := range scattered() {
		at := r
		for by := range 30 {
			if got, errno := lfsr.Jump(r.n, r.taps, r.state, by); got != at.state || errno != api.OK {
				t.Fatalf("%#x by %d: got %#x and error %d, want %#x", r, by, got, errno, at.state)
			}
			at.state = modelStep(at)
		}
	}
}

// TestJumpInParts: two jumps lead where one of both lengths does, and whole periods lead nowhere, also at the limit.
func TestJumpInParts(t *testing.T) {
	every(5, func(r register) {
		period, _ := lfsr.Period(r.n, r.taps, r.state)
		for _, by := range []int{period, 12345 * period, api.MaxCount - api.MaxCount%period} {
			if got, errno := lfsr.Jump(r.n, r.taps, r.state, by); got != r.state || errno != api.OK {
				t.Fatalf("%#x by %d, whole periods: got %#x and error %d", r, by, got, errno)
			}
		}
		want, _ := lfsr.Jump(r.n, r.taps, r.state, api.MaxCount)
		between, _ := lfsr.Jump(r.n, r.taps, r.state, api.MaxCount/3)
		if got, errno := lfsr.Jump(r.n, r.taps, between, api.MaxCount-api.MaxCount/3); got != want || errno != api.OK {
			t.Fatalf("%#x in two parts: got %#x and error %d, want %#x", r, got, errno, want)
		}
	})
}

// TestUnfit: what is not a state of a valid register is reported first, whatever the other arguments.
func TestUnfit(t *testing.T) {
	for _, r := range unfit {
		if got, errno := lfsr.Step(r.n, r.taps, r.state); got != 0 || errno != api.ErrForm {
			t.Errorf("Step of %#x: got %#x and error %d, want error %d", r, got, errno, api.ErrForm)
		}
		if got, errno := lfsr.Back(r.n, r.taps, r.state); got != 0 || errno != api.ErrForm {
			t.Errorf("Back of %#x: got %#x and error %d, want error %d", r, got, errno, api.ErrForm)
		}
		if got, errno := lfsr.Period(r.n, r.taps, r.state); got != 0 || errno != api.ErrForm {
			t.Errorf("Period of %#x: got %d and error %d, want error %d", r, got, errno, api.ErrForm)
		}
		for _, many := range append([]int{0, 1, 400}, outside...) {
			if got, errno := lfsr.Row(r.n, r.taps, r.state, many); len(got) != 0 || errno != api.ErrForm {
				t.Errorf("Row of %#x, %d: got %d bits and error %d, want error %d", r, many, len(got), errno, api.ErrForm)
			}
		}
		for _, by := range append([]int{0, 1, api.MaxCount}, beyond...) {
			if got, errno := lfsr.Jump(r.n, r.taps, r.state, by); got != 0 || errno != api.ErrForm {
				t.Errorf("Jump of %#x, %d: got %#x and error %d, want error %d", r, by, got, errno, api.ErrForm)
			}
		}
	}
}

// TestOutOfRange: rows and jumps that are too long, or negative, are refused for every register.
func TestOutOfRange(t *testing.T) {
	for _, r := range scattered() {
		for _, many := range outside {
			if got, errno := lfsr.Row(r.n, r.taps, r.state, many); len(got) != 0 || errno != api.ErrRange {
				t.Errorf("Row of %#x, %d: got %d bits and error %d, want error %d", r, many, len(got), errno, api.ErrRange)
			}
		}
		for _, by := range beyond {
			if got, errno := lfsr.Jump(r.n, r.taps, r.state, by); got != 0 || errno != api.ErrRange {
				t.Errorf("Jump of %#x, %d: got %#x and error %d, want error %d", r, by, got, errno, api.ErrRange)
			}
		}
	}
}

// TestRowsAreTheirOwn: a row is new memory, and what a caller does with it changes no other.
func TestRowsAreTheirOwn(t *testing.T) {
	for _, r := range scattered() {
		for _, many := range []int{1, 20, 400} {
			row, _ := lfsr.Row(r.n, r.taps, r.state, many)
			want := slices.Clone(row)
			for i := range row {
				row[i] = !row[i]
			}
			if got, _ := lfsr.Row(r.n, r.taps, r.state, many); !slices.Equal(got, want) {
				t.Fatalf("%#x, %d: the second call gives another row", r, many)
			}
		}
	}
}
