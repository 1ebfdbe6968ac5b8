package mixer_test

import (
	"fmt"
	"math"
	"math/bits"
	"slices"
	"testing"

	"lotdrawer/api"
	"lotdrawer/mixer"
)

// full is the word with all bits, and top the one with the highest.
const (
	full = math.MaxUint64
	top  = 1 << 63
)

// outside is numbers of outputs or bits that are out of range.
var outside = []int{-1, -2, -64, -10000, math.MinInt, 10001, 10002, 1<<32 + 1, math.MaxInt - 62, math.MaxInt}

// scattered returns n states without a pattern.
func scattered(seed uint64, n int) []api.Mixer {
	l := make([]api.Mixer, n)
	for i := range l {
		for j := range l[i] {
			seed = seed*6364136223846793005 + 1442695040888963407
			l[i][j] = seed ^ bits.Reverse64(seed)
		}
	}
	return l
}

// states returns states of every kind: each single bit set, each single bit clear, each set of words full, and scattered ones.
func states() []api.Mixer {
	l := append(scattered(13, 2000), api.Mixer{1, 2, 3, 4}, mixer.Seed(0))
	for bit := range 256 {
		one := api.Mixer{}
		others := api.Mixer{full, full, full, full}
		one[bit/64] |= 1 << (bit % 64)
		others[bit/64] &^= 1 << (bit % 64)
		l = append(l, one, others)
	}
	for mask := range 16 {
		var m api.Mixer
		for i := range m {
			if mask>>i&1 == 1 {
				m[i] = full
			}
		}
		l = append(l, m)
	}
	return l
}

// TestSeed compares with outputs of SplitMix64 that are in print, for the seeds 0 and 1234567, and with values worked out apart from the program.
func TestSeed(t *testing.T) {
	for _, c := range []struct {
		n    uint64
		want api.Mixer
	}{
		{0, api.Mixer{0xe220a8397b1dcdaf, 0x6e789e6aa1b965f4, 0x06c45d188009454f, 0xf88bb8a8724c81ec}},
		{1234567, api.Mixer{6457827717110365317, 3203168211198807973, 9817491932198370423, 4593380528125082431}},
		{1, api.Mixer{0x910a2dec89025cc1, 0xbeeb8da1658eec67, 0xf893a2eefb32555e, 0x71c18690ee42c90b}},
		{top, api.Mixer{0x481ec0a212a9f3db, 0xc46fa638a6309012, 0x61a685ffc80a8140, 0x592e268383e356f9}},
		{full, api.Mixer{0xe4d971771b652c20, 0xe99ff867dbf682c9, 0x382ff84cb27281e9, 0x6d1db36ccba982d2}},
	} {
		if got := mixer.Seed(c.n); got != c.want {
			t.Errorf("%d: got %#x, want %#x", c.n, got, c.want)
		}
	}
}

// TestStep has the example of the document, and values worked out apart from the program; Back leads from each next state to its state.
func TestStep(t *testing.T) {
	for _, c := range []struct {
		m      api.Mixer
		output uint64
		next   api.Mixer
	}{
		{api.Mixer{1, 2, 3, 4}, 11520, api.Mixer{7, 0, 262146, 211106232532992}},
		{api.Mixer{}, 0, api.Mixer{}},
		{api.Mixer{1, 0, 0, 0}, 0, api.Mixer{1, 1, 1, 0}},
		{api.Mixer{0, 1, 0, 0}, 0x1680, api.Mixer{1, 1, 0x20000, 0x200000000000}},
		{api.Mixer{0, 0, 1, 0}, 0, api.Mixer{0, 1, 1, 0}},
		{api.Mixer{0, 0, 0, 1}, 0, api.Mixer{1, 0, 0, 0x200000000000}},
		{api.Mixer{top, 0, 0, 0}, 0, api.Mixer{top, top, top, 0}},
		{api.Mixer{0, top, 0, 0}, 0x240, api.Mixer{top, top, 0, 0x100000000000}},
		{api.Mixer{0, 0, top, 0}, 0, api.Mixer{0, top, top, 0}},
		{api.Mixer{0, 0, 0, top}, 0, api.Mixer{top, 0, 0, 0x100000000000}},
		{api.Mixer{full, 0, 0, 0}, 0, api.Mixer{full, full, full, 0}},
		{api.Mixer{0, full, 0, 0}, 0xffffffffffffedf7, api.Mixer{full, full, 0xfffffffffffe0000, full}},
		{api.Mixer{0, 0, full, 0}, 0, api.Mixer{0, full, full, 0}},
		{api.Mixer{0, 0, 0, full}, 0, api.Mixer{full, 0, 0, full}},
		{api.Mixer{0x0123456789abcdef, 0xfedcba9876543210, 0x0f1e2d3c4b5a6978, 0x8796a5b4c3d2e1f0}, 0x6666666666666c65, api.Mixer{0x78695a4b3c2d1e0f, 0xf0e1d2c3b4a59687, 0x7b0d84f3a6d1a497, 0xda7c0f2943e596b0}},
	} {
		if output, next := mixer.Step(c.m); output != c.output || next != c.next {
			t.Errorf("%#x: got %#x and %#x, want %#x and %#x", c.m, output, next, c.output, c.next)
		}
		if got := mixer.Back(c.next); got != c.m {
			t.Errorf("back from %#x: got %#x, want %#x", c.next, got, c.m)
		}
	}
}

// TestBackInverts: with states of every kind, Back takes back what Step does, and Step what Back does.
func TestBackInverts(t *testing.T) {
	for _, m := range states() {
		if _, next := mixer.Step(m); mixer.Back(next) != m {
			t.Errorf("Back of Step of %#x: got %#x", m, mixer.Back(next))
		}
		if _, got := mixer.Step(mixer.Back(m)); got != m {
			t.Errorf("Step of Back of %#x: got %#x", m, got)
		}
	}
}

// TestBackManySteps: as many steps back as were taken lead back to the state at the start.
func TestBackManySteps(t *testing.T) {
	start := mixer.Seed(7)
	_, m, _ := mixer.Words(start, 10000)
	for range 10000 {
		m = mixer.Back(m)
	}
	if m != start {
		t.Errorf("got %#x, want %#x", m, start)
	}
}

// TestWords compares with outputs of xoshiro256** that are in print, for the state {1, 2, 3, 4}, and with values worked out apart from the program.
func TestWords(t *testing.T) {
	for _, c := range []struct {
		what  string
		m     api.Mixer
		want  []uint64
		after api.Mixer
	}{
		{"in print", api.Mixer{1, 2, 3, 4}, []uint64{
			11520, 0, 1509978240, 1215971899390074240, 1216172134540287360,
			607988272756665600, 16172922978634559625, 8476171486693032832, 10595114339597558777, 2904607092377533576,
		}, api.Mixer{6918773752402764499, 4636616456744993510, 602415824082698274, 4336610201886040825}},
		{"one", api.Mixer{1, 2, 3, 4}, []uint64{11520}, api.Mixer{7, 0, 262146, 211106232532992}},
		{"none", api.Mixer{1, 2, 3, 4}, nil, api.Mixer{1, 2, 3, 4}},
		{"none of the state 0", api.Mixer{}, nil, api.Mixer{}},
		{"of the state 0", api.Mixer{}, []uint64{0, 0, 0}, api.Mixer{}},
		{"of full words", api.Mixer{full, full, full, full}, []uint64{
			0xffffffffffffedf7, 0xffffffffffffedf7, 0xffffffffd3000477, 0x2cffe980,
		}, api.Mixer{0x3fffe00000000000, 0x3ffffffff, 0, 0x3fffe7fffc000000}},
		{"of top bits", api.Mixer{top, top, top, top}, []uint64{
			0x240, 0x240, 0, 0x240,
		}, api.Mixer{0x8000100002000000, 0x100000000000, 0x8000100000000000, 0x100000000040}},
	} {
		got, after, errno := mixer.Words(c.m, len(c.want))
		if !slices.Equal(got, c.want) || after != c.after || errno != api.OK {
			t.Errorf("%s: got %#x, %#x and error %d, want %#x, %#x", c.what, got, after, errno, c.want, c.after)
		}
	}
}

// TestWordsAfterSeed compares the first outputs after Seed(0) and the last of 10000 with values worked out apart from the program.
func TestWordsAfterSeed(t *testing.T) {
	got, after, errno := mixer.Words(mixer.Seed(0), 10000)
	if len(got) != 10000 || errno != api.OK {
		t.Fatalf("got %d outputs and error %d", len(got), errno)
	}
	want := []uint64{0x99ec5f36cb75f2b4, 0xbf6e1f784956452a, 0x1a5f849d4933e6e0, 0x6aa594f1262d2d2c, 0xbba5ad4a1f842e59}
	if !slices.Equal(got[:len(want)], want) {
		t.Errorf("the first outputs: got %#x, want %#x", got[:len(want)], want)
	}
	if got[9999] != 0x7e42e7ea9c94ebf3 {
		t.Errorf("the last output: got %#x", got[9999])
	}
	if want := (api.Mixer{0xc4c6fc7e458290ef, 0x4d134a2d06905bb7, 0x4df65c3c03f15b59, 0xd5ce5a417c97ee9a}); after != want {
		t.Errorf("the state after them: got %#x, want %#x", after, want)
	}
}

// modelWords takes so many steps one by one.
func modelWords(m api.Mixer, n int) ([]uint64, api.Mixer) {
	var l []uint64
	for range n {
		var output uint64
		output, m = mixer.Step(m)
		l = append(l, output)
	}
	return l, m
}

// few returns a few states of different kinds.
func few() []api.Mixer {
	return append(scattered(29, 5), api.Mixer{}, api.Mixer{1}, api.Mixer{1, 2, 3, 4}, api.Mixer{full, full, full, full}, mixer.Seed(0))
}

// TestWordsAreSteps: the outputs are those of Step, and a sequence may be taken in two parts, the second from the state after the first.
func TestWordsAreSteps(t *testing.T) {
	for _, m := range few() {
		for _, n := range []int{0, 1, 2, 3, 63, 64, 65, 1000, 9999, 10000} {
			want, wantAfter := modelWords(m, n)
			got, after, errno := mixer.Words(m, n)
			if !slices.Equal(got, want) || after != wantAfter || errno != api.OK {
				t.Errorf("%d outputs of %#x: got %#x and error %d after them, want %#x", n, m, after, errno, wantAfter)
			}
			one, between, _ := mixer.Words(m, n/3)
			two, end, _ := mixer.Words(between, n-n/3)
			if !slices.Equal(slices.Concat(one, two), want) || end != wantAfter {
				t.Errorf("%d outputs of %#x in two parts: got %#x after them, want %#x", n, m, end, wantAfter)
			}
		}
	}
}

// digits writes bits as digits 0 and 1.
func digits(l []bool) string {
	text := ""
	for _, bit := range l {
		if bit {
			text += "1"
		} else {
			text += "0"
		}
	}
	return text
}

// TestBits has sequences that are written out: the outputs as in TestWords, in binary.
func TestBits(t *testing.T) {
	first := api.Mixer{7, 0, 262146, 211106232532992}
	high := api.Mixer{0, full, 0, 0} // its output is 0xffffffffffffedf7
	ones := "1111111111111111111111111111111111111111111111111110110111110111"
	for _, c := range []struct {
		what  string
		m     api.Mixer
		n     int
		want  string
		after api.Mixer
	}{
		{"none", api.Mixer{1, 2, 3, 4}, 0, "", api.Mixer{1, 2, 3, 4}},
		{"none of the state 0", api.Mixer{}, 0, "", api.Mixer{}},
		{"one", api.Mixer{1, 2, 3, 4}, 1, "0", first},
		{"the highest is the first", high, 1, "1", api.Mixer{full, full, 0xfffffffffffe0000, full}},
		{"up to the highest that is set", api.Mixer{1, 2, 3, 4}, 51, "000000000000000000000000000000000000000000000000001", first},
		{"all but one of an output", high, 63, ones[:63], api.Mixer{full, full, 0xfffffffffffe0000, full}},
		{"an output", high, 64, ones, api.Mixer{full, full, 0xfffffffffffe0000, full}},
		{"an output that begins with 0", api.Mixer{1, 2, 3, 4}, 64, "0000000000000000000000000000000000000000000000000010110100000000", first},
		{"two outputs", api.Mixer{full, full, full, full}, 128, ones + ones, api.Mixer{0, 0xfffffffffffe0000, full, full}},
		{"one bit of the third", api.Mixer{full, full, full, full}, 129, ones + ones + "1", api.Mixer{0x1ffff, 0x1ffff, 0x3ffffffff, 0x3fffe00000000000}},
		{"of the state 0", api.Mixer{}, 66, "000000000000000000000000000000000000000000000000000000000000000000", api.Mixer{}},
	} {
		got, after, errno := mixer.Bits(c.m, c.n)
		if digits(got) != c.want || after != c.after || errno != api.OK {
			t.Errorf("%s: got %s, %#x and error %d, want %s, %#x", c.what, digits(got), after, errno, c.want, c.after)
		}
	}
}

// modelBits writes each output in binary, one after the other, until there are n digits.
func modelBits(m api.Mixer, n int) (string, api.Mixer) {
	text := ""
	for len(text) < n {
		var output uint64
		output, m = mixer.Step(m)
		text += fmt.Sprintf("%064b", output)
	}
	return text[:n], m
}

// TestBitsOfOutputs: the bits are those of the outputs of Step, and the state is that after the last output of which a bit is taken.
func TestBitsOfOutputs(t *testing.T) {
	for _, m := range few() {
		for _, n := range []int{0, 1, 2, 31, 32, 33, 62, 63, 64, 65, 66, 127, 128, 129, 191, 192, 193, 1000, 9983, 9984, 9985, 9999, 10000} {
			want, wantAfter := modelBits(m, n)
			got, after, errno := mixer.Bits(m, n)
			if digits(got) != want || after != wantAfter || errno != api.OK {
				t.Errorf("%d bits of %#x: got %#x and error %d after them, want %#x", n, m, after, errno, wantAfter)
			}
		}
	}
}

// TestOutOfRange: Words and Bits refuse numbers that are out of range, and give nothing then, not even the state.
func TestOutOfRange(t *testing.T) {
	for _, m := range few() {
		for _, n := range outside {
			if got, after, errno := mixer.Words(m, n); len(got) != 0 || after != (api.Mixer{}) || errno != api.ErrRange {
				t.Errorf("Words of %#x, %d: got %d outputs, %#x and error %d, want error %d", m, n, len(got), after, errno, api.ErrRange)
			}
			if got, after, errno := mixer.Bits(m, n); len(got) != 0 || after != (api.Mixer{}) || errno != api.ErrRange {
				t.Errorf("Bits of %#x, %d: got %d bits, %#x and error %d, want error %d", m, n, len(got), after, errno, api.ErrRange)
			}
		}
	}
}

// TestNoStateKept: a call gives the same whatever was called before it, and its result is memory of its own.
func TestNoStateKept(t *testing.T) {
	for _, m := range few() {
		for _, n := range []int{0, 1, 64, 65, 10000} {
			words, after, _ := mixer.Words(m, n)
			wantWords := slices.Clone(words)
			clear(words[:cap(words)])
			if got, again, _ := mixer.Words(m, n); !slices.Equal(got, wantWords) || again != after {
				t.Errorf("%d outputs of %#x: the second call gives others", n, m)
			}
			l, after, _ := mixer.Bits(m, n)
			wantBits := slices.Clone(l)
			clear(l[:cap(l)])
			if got, again, _ := mixer.Bits(m, n); !slices.Equal(got, wantBits) || again != after {
				t.Errorf("%d bits of %#x: the second call gives others", n, m)
			}
		}
	}
}
