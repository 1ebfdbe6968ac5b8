package tape_test

import (
	"math"
	"slices"
	"strings"
	"testing"

	"lotdrawer/api"
	"lotdrawer/tape"
	"lotdrawer/tapetest"
)

func TestBelow(t *testing.T) {
	for _, c := range []struct {
		digits      string
		n           int
		number, end int
		errno       api.Errno
	}{
		{"110 101", 6, 5, 6, api.OK}, // the document's example
		{"110 101 000", 6, 5, 6, api.OK},
		{"101", 6, 5, 3, api.OK},
		{"100", 5, 4, 3, api.OK},
		{"001", 5, 1, 3, api.OK}, // most significant bit first
		{"111 110 101 100 1", 5, 4, 12, api.OK},
		{"000", 8, 0, 3, api.OK},
		{"111", 8, 7, 3, api.OK}, // a power of two rejects nothing
		{"0111", 8, 3, 3, api.OK},
		{"1111 0111", 9, 7, 8, api.OK}, // one more than a power of two
		{"1000", 9, 8, 4, api.OK},
		{"0", 2, 0, 1, api.OK},
		{"1", 2, 1, 1, api.OK},
		{"11 10", 3, 2, 4, api.OK},
		{"", 1, 0, 0, api.OK}, // no bits needed
		{"1", 1, 0, 0, api.OK},
		{"0110", 1, 0, 0, api.OK},
		{"", 2, 0, 0, api.ErrEnd},
		{"11", 6, 0, 0, api.ErrEnd},
		{"00", 6, 0, 0, api.ErrEnd}, // an incomplete group doesn't count
		{"110", 6, 0, 0, api.ErrEnd},
		{"110 00", 6, 0, 0, api.ErrEnd},
		{"110 111 110", 6, 0, 0, api.ErrEnd},
		{"11 11 11 1", 3, 0, 0, api.ErrEnd},
		{"0000", 0, 0, 0, api.ErrRange},
		{"", 0, 0, 0, api.ErrRange}, // ErrRange is checked before ErrEnd
		{"0000", -1, 0, 0, api.ErrRange},
		{"0000", math.MinInt, 0, 0, api.ErrRange},
		{"", api.MaxCount + 1, 0, 0, api.ErrRange},
		{strings.Repeat("0", 100), api.MaxCount + 1, 0, 0, api.ErrRange},
		{strings.Repeat("0", 100), math.MaxInt, 0, 0, api.ErrRange},
		{strings.Repeat("1", 40), api.MaxCount, api.MaxCount - 1, 40, api.OK},
		{"1" + strings.Repeat("0", 40), api.MaxCount, api.MaxCount / 2, 40, api.OK},
		{strings.Repeat("1", 39), api.MaxCount, 0, 0, api.ErrEnd},
		{strings.Repeat("1", 79) + "0", api.MaxCount - 1, api.MaxCount - 2, 80, api.OK},
		{strings.Repeat("1", 79), api.MaxCount - 1, 0, 0, api.ErrEnd},
		{strings.Repeat("1", 40) + "0" + strings.Repeat("1", 39), 1<<39 + 1, 1<<39 - 1, 80, api.OK},
	} {
		number, end, errno := tape.Below(tapetest.Of(c.digits), c.n)
		if number != c.number || end != c.end || errno != c.errno {
			t.Errorf("Below(%s, %d): got %d, %d and error %d, want %d, %d and error %d",
				c.digits, c.n, number, end, errno, c.number, c.end, c.errno)
		}
	}
}

// TestBelowFindsFirst builds tapes of some rejected groups, one that is accepted, and more bits.
func TestBelowFindsFirst(t *testing.T) {
	for n := 1; n <= 70; n++ {
		width := 0
		for 1<<width < n {
			width++
		}
		for number := range n {
			digits := ""
			for rejected := range 4 {
				end := (rejected + 1) * width
				got, used, errno := tape.Below(tapetest.Of(digits+tapetest.Digits(number, width)+"0110"), n)
				if got != number || used != end || errno != api.OK {
					t.Errorf("n = %d, %d after %s: got %d, %d and error %d", n, number, digits, got, used, errno)
				}
				if n == 1<<width {
					break // there is nothing to reject
				}
				digits += tapetest.Digits(n+(rejected*7)%(1<<width-n), width)
			}
		}
	}
}

// TestBelowIsUniform counts over all tapes of one length: each number comes from equally many.
func TestBelowIsUniform(t *testing.T) {
	const length = 12
	tapes := tapetest.All(length)
	for n := 1; n <= 16; n++ {
		counts := make([]int, n)
		for _, digits := range tapes {
			number, _, errno := tape.Below(tapetest.Of(digits), n)
			if errno == api.OK {
				counts[number]++
			}
		}
		if slices.Min(counts) != slices.Max(counts) || counts[0] == 0 {
			t.Errorf("n = %d: got %v, want equal counts", n, counts)
		}
	}
}

func TestMany(t *testing.T) {
	for _, c := range []struct {
		digits  string
		n       []int
		numbers []int
		end     int
		errno   api.Errno
	}{
		{"0110", []int{2, 2}, []int{0, 1}, 2, api.OK},
		{"0110", []int{2, 2, 2, 2}, []int{0, 1, 1, 0}, 4, api.OK},
		{"110 101 11 10 1", []int{6, 3, 2}, []int{5, 2, 1}, 11, api.OK},
		{"110 101 11 10 1 0", []int{6, 1, 3, 1, 2}, []int{5, 0, 2, 0, 1}, 11, api.OK},
		{"", []int{1, 1, 1}, []int{0, 0, 0}, 0, api.OK},
		{"1 0", []int{2, 1}, []int{1, 0}, 1, api.OK},
		{"1", []int{2, 1}, []int{1, 0}, 1, api.OK}, // nothing is left, and nothing is needed
		{"", nil, nil, 0, api.OK},
		{"", []int{}, nil, 0, api.OK},
		{"0101", nil, nil, 0, api.OK},
		{strings.Repeat("1", 41), []int{api.MaxCount, 2}, []int{api.MaxCount - 1, 1}, 41, api.OK},
		{"", []int{2}, nil, 0, api.ErrEnd},
		{"01", []int{2, 2, 2}, nil, 0, api.ErrEnd},
		{"0 11 11", []int{2, 3}, nil, 0, api.ErrEnd},
		{"0101", []int{0}, nil, 0, api.ErrRange},
		{"0101", []int{2, -1}, nil, 0, api.ErrRange},
		{"0101", []int{2, api.MaxCount + 1, 2}, nil, 0, api.ErrRange},
		{"01", []int{2, 2, 0}, nil, 0, api.ErrRange},
		// The first error by position, not by kind.
		{"01", []int{2, 2, 2, 0}, nil, 0, api.ErrEnd},
		{"01", []int{2, 0, 2, 2}, nil, 0, api.ErrRange},
		{"", []int{0, 2}, nil, 0, api.ErrRange},
		{"", []int{2, 0}, nil, 0, api.ErrEnd},
	} {
		numbers, end, errno := tape.Many(tapetest.Of(c.digits), c.n)
		if !slices.Equal(numbers, c.numbers) || end != c.end || errno != c.errno {
			t.Errorf("Many(%s, %v): got %v, %d and error %d, want %v, %d and error %d",
				c.digits, c.n, numbers, end, errno, c.numbers, c.end, c.errno)
		}
	}
}

// TestManyIsUniform counts over all tapes of one length, among those on which no group is rejected: each list comes once.
func TestManyIsUniform(t *testing.T) {
	n := []int{3, 2, 5, 1, 4}
	const length = 2 + 1 + 3 + 0 + 2
	counts := map[[5]int]int{}
	for _, digits := range tapetest.All(length) {
		numbers, end, errno := tape.Many(tapetest.Of(digits), n)
		if errno != api.OK {
			continue
		}
		if end != length {
			t.Errorf("%s: got %d bits consumed, want %d", digits, end, length)
		}
		counts[[5]int(numbers)]++
	}
	if len(counts) != 3*2*5*1*4 {
		t.Errorf("got %d lists, want %d", len(counts), 3*2*5*1*4)
	}
	for list, count := range counts {
		if count != 1 {
			t.Errorf("%v: got it %d times, want once", list, count)
		}
	}
}

func TestFair(t *testing.T) {
	for _, c := range []struct {
		digits string
		bit    bool
		end    int
		errno  api.Errno
	}{
		{"00 11 10", true, 6, api.OK}, // the document's example
		{"00 11 01", false, 6, api.OK},
		{"10", true, 2, api.OK},
		{"01", false, 2, api.OK},
		{"10 01", true, 2, api.OK},
		{"01 10 1", false, 2, api.OK},
		{"11 01", false, 4, api.OK}, // the bits 2 and 3 differ too, but are no pair
		{"00 10 1", true, 4, api.OK},
		{"", false, 0, api.ErrEnd},
		{"0", false, 0, api.ErrEnd},
		{"1", false, 0, api.ErrEnd},
		{"00", false, 0, api.ErrEnd},
		{"0011", false, 0, api.ErrEnd},
		{"11 0", false, 0, api.ErrEnd}, // an incomplete pair doesn't count
		{"00 1", false, 0, api.ErrEnd},
		{"11 00 11 00 1", false, 0, api.ErrEnd},
	} {
		bit, end, errno := tape.Fair(tapetest.Of(c.digits))
		if bit != c.bit || end != c.end || errno != c.errno {
			t.Errorf("Fair(%s): got %t, %d and error %d, want %t, %d and error %d",
				c.digits, bit, end, errno, c.bit, c.end, c.errno)
		}
	}
}

// TestFairIsUnbiased counts over all tapes of one length, by how many of their bits are 1: that number alone makes up the likelihood of a tape.
func TestFairIsUnbiased(t *testing.T) {
	const length = 9
	var trues, falses [length + 1]int
	for _, digits := range tapetest.All(length) {
		bit, end, errno := tape.Fair(tapetest.Of(digits))
		if errno != api.OK {
			continue
		}
		ones := strings.Count(digits, "1")
		if bit {
			trues[ones]++
		} else {
			falses[ones]++
		}
		if digits[end-2] == digits[end-1] || end%2 != 0 {
			t.Errorf("%s: got %d bits consumed, which is no end of a pair that differs", digits, end)
		}
	}
	if trues != falses || trues[1] == 0 {
		t.Errorf("got %v times true and %v times false, want equal counts", trues, falses)
	}
}

func TestArgumentsAreUntouched(t *testing.T) {
	for _, digits := range []string{"", "1", "11", "110", "110101", "111111111", "0110100"} {
		bits := tapetest.Of(digits)
		for _, spare := range [][]bool{tapetest.Of("0101"), tapetest.Of("1010")} {
			padded := tapetest.WithSpare(bits, spare)
			for _, n := range []int{0, 1, 2, 3, 6} {
				whole := []int{n, 2, 2, 1, 0}
				limits := whole[:2]
				number, end, errno := tape.Below(padded, n)
				wantNumber, wantEnd, wantErrno := tape.Below(bits, n)
				if number != wantNumber || end != wantEnd || errno != wantErrno {
					t.Errorf("Below(%s, %d) depends on the spare capacity", digits, n)
				}
				numbers, end, errno := tape.Many(padded, limits)
				wantNumbers, wantEnd, wantErrno := tape.Many(bits, []int{n, 2})
				if !slices.Equal(numbers, wantNumbers) || end != wantEnd || errno != wantErrno {
					t.Errorf("Many(%s, [%d 2]) depends on the spare capacity", digits, n)
				}
				for i := range numbers {
					numbers[i] = -1
				}
				if !slices.Equal(whole, []int{n, 2, 2, 1, 0}) {
					t.Errorf("Many(%s, [%d 2]) modified the limits, or shares memory with them", digits, n)
				}
			}
			bit, end, errno := tape.Fair(padded)
			wantBit, wantEnd, wantErrno := tape.Fair(bits)
			if bit != wantBit || end != wantEnd || errno != wantErrno {
				t.Errorf("Fair(%s) depends on the spare capacity", digits)
			}
			if whole := padded[:len(bits)+len(spare)]; !slices.Equal(whole, append(slices.Clone(bits), spare...)) {
				t.Errorf("the tape %s was modified", digits)
			}
		}
	}
}

// TestLongTape stays fast only if each call of Below starts where the one before it ended.
func TestLongTape(t *testing.T) {
	const many = 1 << 20
	bits := make([]bool, 3*many)
	for i := range bits {
		bits[i] = i%3 == 0
	}
	numbers, end, errno := tape.Many(bits, slices.Repeat([]int{5}, many))
	if end != 3*many || errno != api.OK || !slices.Equal(numbers, slices.Repeat([]int{4}, many)) {
		t.Errorf("got %d bits consumed and error %d, want %d and only fours", end, errno, 3*many)
	}
	number, end, errno := tape.Below(slices.Repeat([]bool{true}, many), 3)
	if number != 0 || end != 0 || errno != api.ErrEnd {
		t.Errorf("got %d, %d and error %d, want only an error", number, end, errno)
	}
}
