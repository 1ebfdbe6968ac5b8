package coin_test

import (
	"math"
	"math/big"
	"slices"
	"strconv"
	"strings"
	"testing"

	"lotdrawer/api"
	"lotdrawer/coin"
	"lotdrawer/tapetest"
)

// expansion returns so many digits of p's binary expansion, and whether only zeros follow.
func expansion(p api.Frac, width int) (string, bool) {
	scaled := new(big.Int).Lsh(big.NewInt(int64(p.Num)), uint(width))
	whole, rest := scaled.QuoRem(scaled, big.NewInt(int64(p.Den)), new(big.Int))
	digits := ""
	for i := width - 1; i >= 0; i-- {
		digits += strconv.Itoa(int(whole.Bit(i)))
	}
	return digits, rest.Sign() == 0
}

// flipped returns the other digit.
func flipped(digit byte) string {
	return string('0' + '1' - digit)
}

func TestRight(t *testing.T) {
	for _, c := range []struct {
		p    api.Frac
		want bool
	}{
		{api.Frac{Num: 0, Den: 1}, true},
		{api.Frac{Num: 1, Den: 1}, true},
		{api.Frac{Num: 1, Den: 3}, true},
		{api.Frac{Num: 2, Den: 4}, true}, // it needn't be in lowest terms
		{api.Frac{Num: 0, Den: 7}, true},
		{api.Frac{Num: 7, Den: 7}, true},
		{api.Frac{Num: 0, Den: api.MaxCount}, true},
		{api.Frac{Num: 1, Den: api.MaxCount}, true},
		{api.Frac{Num: api.MaxCount, Den: api.MaxCount}, true},
		{api.Frac{}, false},
		{api.Frac{Num: 1, Den: 0}, false},
		{api.Frac{Num: 2, Den: 1}, false},
		{api.Frac{Num: 8, Den: 7}, false},
		{api.Frac{Num: -1, Den: 7}, false},
		{api.Frac{Num: -1, Den: -1}, false},
		{api.Frac{Num: -2, Den: -1}, false},
		{api.Frac{Num: 0, Den: -1}, false},
		{api.Frac{Num: 0, Den: api.MaxCount + 1}, false},
		{api.Frac{Num: api.MaxCount + 1, Den: api.MaxCount + 1}, false},
		{api.Frac{Num: api.MaxCount + 1, Den: api.MaxCount}, false},
		{api.Frac{Num: math.MinInt, Den: 1}, false},
		{api.Frac{Num: math.MaxInt, Den: 1}, false},
		{api.Frac{Num: math.MinInt, Den: math.MinInt}, false},
		{api.Frac{Num: math.MaxInt, Den: math.MaxInt}, false},
	} {
		if got := coin.Right(c.p); got != c.want {
			t.Errorf("Right(%v): got %t, want %t", c.p, got, c.want)
		}
	}
}

func TestToss(t *testing.T) {
	for _, c := range []struct {
		digits   string
		num, den int
		success  bool
		end      int
		errno    api.Errno
	}{
		{"0111", 1, 3, false, 3, api.OK}, // the document's example
		{"00", 1, 3, true, 2, api.OK},
		{"1", 1, 3, false, 1, api.OK},
		{"0100", 1, 3, true, 4, api.OK},
		{"011", 1, 3, false, 3, api.OK},
		{"0", 2, 3, true, 1, api.OK}, // 0.1010...
		{"11", 2, 3, false, 2, api.OK},
		{"100", 2, 3, true, 3, api.OK},
		{"1", 3, 3, true, 0, api.OK}, // certain, without bits
		{"", 1, 1, true, 0, api.OK},
		{"", api.MaxCount, api.MaxCount, true, 0, api.OK},
		{"0", 0, 3, false, 0, api.OK}, // impossible, without bits
		{"", 0, 1, false, 0, api.OK},
		{"", 0, api.MaxCount, false, 0, api.OK},
		{"0", 1, 2, true, 1, api.OK},
		{"1", 1, 2, false, 1, api.OK}, // only zeros remain
		{"10", 1, 2, false, 1, api.OK},
		{"1", 2, 4, false, 1, api.OK},
		{"1", 3, 6, false, 1, api.OK},
		{"11", 3, 4, false, 2, api.OK}, // the finite expansion, 0.11
		{"10", 3, 4, true, 2, api.OK},
		{"0", 3, 4, true, 1, api.OK},
		{"01", 1, 4, false, 2, api.OK},
		{"00", 1, 4, true, 2, api.OK},
		{"1", 1, 4, false, 1, api.OK},
		{"101", 5, 8, false, 3, api.OK},
		{"100", 5, 8, true, 3, api.OK},
		{"0", 1, 4, false, 0, api.ErrEnd},
		{"", 1, 2, false, 0, api.ErrEnd},
		{"010", 1, 3, false, 0, api.ErrEnd},
		{"1010", 2, 3, false, 0, api.ErrEnd},
		{"10", 5, 8, false, 0, api.ErrEnd}, // a 1 of the expansion is still to come
		{strings.Repeat("0", 39), 1, api.MaxCount, false, 0, api.ErrEnd},
		{strings.Repeat("0", 39) + "1", 1, api.MaxCount, false, 40, api.OK},
		{strings.Repeat("0", 40), 1, api.MaxCount, true, 40, api.OK},
		{strings.Repeat("1", 40), api.MaxCount - 1, api.MaxCount, false, 40, api.OK},
		{strings.Repeat("1", 39) + "0", api.MaxCount - 1, api.MaxCount, true, 40, api.OK},
		{strings.Repeat("1", 38) + "0", api.MaxCount - 1, api.MaxCount, true, 39, api.OK},
		{"0000", 1, 0, false, 0, api.ErrRange},
		{"0000", 0, 0, false, 0, api.ErrRange},
		{"0000", 2, 1, false, 0, api.ErrRange},
		{"0000", -1, 2, false, 0, api.ErrRange},
		{"0000", 1, -2, false, 0, api.ErrRange},
		{"0000", 1, api.MaxCount + 1, false, 0, api.ErrRange},
		{"0000", math.MaxInt, math.MaxInt, false, 0, api.ErrRange},
		{"0000", math.MinInt, math.MinInt, false, 0, api.ErrRange},
		{"", 3, 2, false, 0, api.ErrRange}, // ErrRange is checked before ErrEnd
	} {
		success, end, errno := coin.Toss(tapetest.Of(c.digits), api.Frac{Num: c.num, Den: c.den})
		if success != c.success || end != c.end || errno != c.errno {
			t.Errorf("Toss(%s, %d/%d): got %t, %d and error %d, want %t, %d and error %d",
				c.digits, c.num, c.den, success, end, errno, c.success, c.end, c.errno)
		}
	}
}

// TestTossFollowsExpansion builds tapes that agree with p up to one position, differ there, and go on.
func TestTossFollowsExpansion(t *testing.T) {
	const width = 90
	for _, p := range []api.Frac{
		{Num: 1, Den: 3}, {Num: 2, Den: 7}, {Num: 5, Den: 6}, {Num: 11, Den: 12}, {Num: 9, Den: 16}, {Num: 40, Den: 64},
		{Num: 1, Den: api.MaxCount}, {Num: api.MaxCount - 1, Den: api.MaxCount}, {Num: api.MaxCount / 2, Den: api.MaxCount},
		{Num: 1, Den: api.MaxCount - 1}, {Num: api.MaxCount - 2, Den: api.MaxCount - 1}, {Num: 123456789012, Den: 987654321098},
	} {
		for agreed := range width {
			digits, finished := expansion(p, agreed)
			success, end, errno := coin.Toss(tapetest.Of(digits), p)
			if finished {
				if success || end != agreed || errno != api.OK {
					t.Errorf("%v on all of it: got %t, %d and error %d, want false, %d", p, success, end, errno, agreed)
				}
				break
			}
			if success || end != 0 || errno != api.ErrEnd {
				t.Errorf("%v on %s: got %t, %d and error %d, want ErrEnd", p, digits, success, end, errno)
			}
			longer, _ := expansion(p, agreed+1)
			next := longer[agreed]
			success, end, errno = coin.Toss(tapetest.Of(digits+flipped(next)+"0110"), p)
			if success != (next == '1') || end != agreed+1 || errno != api.OK {
				t.Errorf("%v, differing after %s: got %t, %d and error %d", p, digits, success, end, errno)
			}
		}
	}
}

// TestTossHasItsProbability counts over all tapes of one length: as many are true as p allows for at that resolution, and at most one is too short.
func TestTossHasItsProbability(t *testing.T) {
	const length = 9
	var tapes [][]bool
	for _, digits := range tapetest.All(length) {
		tapes = append(tapes, tapetest.Of(digits))
	}
	for den := 1; den <= 20; den++ {
		for num := range den + 1 {
			trues, short := 0, 0
			for _, bits := range tapes {
				success, _, errno := coin.Toss(bits, api.Frac{Num: num, Den: den})
				if success {
					trues++
				}
				if errno == api.ErrEnd {
					short++
				}
			}
			wantTrues := num << length / den
			wantShort := min(1, num<<length%den)
			if trues != wantTrues || short != wantShort {
				t.Errorf("%d/%d: got %d true and %d too short, want %d and %d", num, den, trues, short, wantTrues, wantShort)
			}
		}
	}
}

func TestTurn(t *testing.T) {
	for _, c := range []struct {
		digits      string
		num, den    int
		tosses, end int
		errno       api.Errno
	}{
		{"110", 1, 2, 3, 3, api.OK},
		{"0", 1, 2, 1, 1, api.OK},
		{"01", 1, 2, 1, 1, api.OK},
		{"1 011 00 1", 1, 3, 3, 6, api.OK},
		{"1 011 1 1 0100", 1, 3, 5, 10, api.OK},
		{"11 101", 3, 4, 2, 4, api.OK},
		{"01 1 01 001", 1, 4, 4, 7, api.OK},
		{"", 1, 1, 1, 0, api.OK}, // certain, without bits
		{"111", 5, 5, 1, 0, api.OK},
		{"", api.MaxCount, api.MaxCount, 1, 0, api.OK},
		{strings.Repeat("1", 50) + strings.Repeat("0", 40), 1, api.MaxCount, 51, 90, api.OK},
		{"", 1, 2, 0, 0, api.ErrEnd},
		{"111", 1, 2, 0, 0, api.ErrEnd},
		{"1 011 0", 1, 3, 0, 0, api.ErrEnd},
		{"010", 1, 3, 0, 0, api.ErrEnd},
		{"000", 0, 1, 0, 0, api.ErrRange}, // valid, but it would never be true
		{"", 0, 1, 0, 0, api.ErrRange},
		{"", 0, api.MaxCount, 0, 0, api.ErrRange},
		{"000", 0, 0, 0, 0, api.ErrRange},
		{"000", 1, 0, 0, 0, api.ErrRange},
		{"000", 3, 2, 0, 0, api.ErrRange},
		{"000", -1, 2, 0, 0, api.ErrRange},
		{"000", 1, -2, 0, 0, api.ErrRange},
		{"000", 1, api.MaxCount + 1, 0, 0, api.ErrRange},
		{"", 2, 1, 0, 0, api.ErrRange}, // ErrRange is checked before ErrEnd
	} {
		tosses, end, errno := coin.Turn(tapetest.Of(c.digits), api.Frac{Num: c.num, Den: c.den})
		if tosses != c.tosses || end != c.end || errno != c.errno {
			t.Errorf("Turn(%s, %d/%d): got %d, %d and error %d, want %d, %d and error %d",
				c.digits, c.num, c.den, tosses, end, errno, c.tosses, c.end, c.errno)
		}
	}
}

// TestTurnIsGeometric counts over all tapes of one length: with p = 3/4, which needs at most two bits, toss k is the first success of 3 in 4^k.
func TestTurnIsGeometric(t *testing.T) {
	const length = 10
	counts := make([]int, length/2+1)
	for _, digits := range tapetest.All(length) {
		tosses, end, errno := coin.Turn(tapetest.Of(digits), api.Frac{Num: 3, Den: 4})
		if errno != api.OK {
			counts[0]++
			continue
		}
		if prefix := strings.Repeat("11", tosses-1); !strings.HasPrefix(digits, prefix) || digits[len(prefix):end] == "11" {
			t.Errorf("%s: got %d tosses and %d bits", digits, tosses, end)
		}
		counts[tosses]++
	}
	if want := []int{1, 768, 192, 48, 12, 3}; !slices.Equal(counts, want) {
		t.Errorf("got %v, want %v", counts, want)
	}
}

func TestOf(t *testing.T) {
	for _, c := range []struct {
		digits     string
		weights    []int
		index, end int
		errno      api.Errno
	}{
		{"", []int{0, 3}, 1, 0, api.OK}, // the document's example
		{"0101", []int{0, 3}, 1, 0, api.OK},
		{"10", []int{1, 1}, 1, 1, api.OK},
		{"01", []int{1, 1}, 0, 1, api.OK},
		{"", []int{5}, 0, 0, api.OK},
		{"", []int{3, 0}, 0, 0, api.OK}, // all the weight, with nothing after it
		{"", []int{0, 0, 7, 0, 0}, 2, 0, api.OK},
		{"", []int{api.MaxCount}, 0, 0, api.OK},
		{"", []int{0, api.MaxCount, 0}, 1, 0, api.OK},
		{"00 1", []int{1, 1, 1}, 0, 2, api.OK}, // 1/3, then 1/2, then certain
		{"1 0", []int{1, 1, 1}, 1, 2, api.OK},
		{"1 1", []int{1, 1, 1}, 2, 2, api.OK},
		{"011 0 1", []int{1, 1, 1}, 1, 4, api.OK},
		{"0100 1", []int{1, 1, 1}, 0, 4, api.OK},
		{"1 0", []int{1, 0, 1, 0, 1}, 2, 2, api.OK}, // a weight of 0 consumes no bits
		{"11 1", []int{12, 0, 2, 2}, 3, 3, api.OK},
		{"11 11", []int{12, 3, 1}, 2, 4, api.OK},
		{"11 10", []int{12, 3, 1}, 1, 4, api.OK},
		{"0", []int{12, 3, 1}, 0, 1, api.OK},
		{"1", []int{api.MaxCount / 2, api.MaxCount / 2}, 1, 1, api.OK},
		{strings.Repeat("0", 40), []int{1, api.MaxCount - 1}, 0, 40, api.OK},
		{strings.Repeat("0", 39) + "1", []int{1, api.MaxCount - 1}, 1, 40, api.OK},
		{"", []int{1, 1}, 0, 0, api.ErrEnd},
		{"01", []int{1, 1, 1}, 0, 0, api.ErrEnd},
		{"1", []int{1, 1, 1}, 0, 0, api.ErrEnd},
		{"", nil, 0, 0, api.ErrNone},
		{"01", []int{}, 0, 0, api.ErrNone},
		{"", []int{0}, 0, 0, api.ErrNone},
		{"0101", []int{0, 0, 0}, 0, 0, api.ErrNone},
		{"0101", []int{-1}, 0, 0, api.ErrRange},
		{"0101", []int{3, 2, -1}, 0, 0, api.ErrRange},
		{"0101", []int{math.MinInt, 1}, 0, 0, api.ErrRange},
		{"0101", []int{api.MaxCount + 1}, 0, 0, api.ErrRange},
		{"0101", []int{1, api.MaxCount}, 0, 0, api.ErrRange},
		{"0101", []int{api.MaxCount, 0, 1}, 0, 0, api.ErrRange},
		{"0101", []int{math.MaxInt}, 0, 0, api.ErrRange},
		{"0101", []int{math.MaxInt, math.MaxInt, 2}, 0, 0, api.ErrRange}, // the sum would wrap around to 0
		{"0101", []int{2, math.MaxInt, math.MaxInt}, 0, 0, api.ErrRange},
		{"0101", []int{1, math.MaxInt, math.MaxInt, 2}, 0, 0, api.ErrRange},
		{"0101", []int{1 << 62, 1 << 62, 1 << 62, 1 << 62}, 0, 0, api.ErrRange},
		{"0101", []int{api.MaxCount, 1, -1}, 0, 0, api.ErrRange},
		{"0101", []int{1, -1}, 0, 0, api.ErrRange}, // ErrRange is checked before ErrNone
		{"0101", []int{0, -1}, 0, 0, api.ErrRange},
		{"", []int{1, 1, -1}, 0, 0, api.ErrRange}, // and before ErrEnd
		{"0", []int{1, 1, -1}, 0, 0, api.ErrRange},
	} {
		index, end, errno := coin.Of(tapetest.Of(c.digits), c.weights)
		if index != c.index || end != c.end || errno != c.errno {
			t.Errorf("Of(%s, %v): got %d, %d and error %d, want %d, %d and error %d",
				c.digits, c.weights, index, end, errno, c.index, c.end, c.errno)
		}
	}
}

// TestOfIsProportional counts over all tapes of one length. The tapes that are too short could go to any index.
func TestOfIsProportional(t *testing.T) {
	const length = 12
	var tapes [][]bool
	for _, digits := range tapetest.All(length) {
		tapes = append(tapes, tapetest.Of(digits))
	}
	for _, c := range []struct {
		weights []int
		short   int // at most so many tapes are too short
	}{
		{[]int{4, 2, 1, 1}, 0},
		{[]int{12, 3, 0, 1}, 0},
		{[]int{0, 9, 5, 2, 0}, 200},
		{[]int{1, 2, 3}, 30},
		{[]int{3, 1, 1, 1, 0, 4}, 200},
	} {
		sum, short := 0, 0
		for _, weight := range c.weights {
			sum += weight
		}
		counts := make([]int, len(c.weights))
		for _, bits := range tapes {
			index, _, errno := coin.Of(bits, c.weights)
			if errno == api.OK {
				counts[index]++
			} else {
				short++
			}
		}
		if short > c.short {
			t.Errorf("%v: got %d tapes too short, want at most %d", c.weights, short, c.short)
		}
		for i, weight := range c.weights {
			want := weight << length
			if counts[i]*sum > want || (counts[i]+short)*sum < want || weight == 0 && counts[i] != 0 {
				t.Errorf("%v: got counts %v with %d too short", c.weights, counts, short)
			}
		}
	}
}

func TestArgumentsAreUntouched(t *testing.T) {
	for _, digits := range []string{"", "0", "1", "01", "010", "1011", "111111", "0110100"} {
		bits := tapetest.Of(digits)
		for _, spare := range [][]bool{tapetest.Of("0000"), tapetest.Of("1111")} {
			padded := tapetest.WithSpare(bits, spare)
			for _, p := range []api.Frac{{Num: 1, Den: 3}, {Num: 3, Den: 4}, {Num: 1, Den: 1}, {Num: 0, Den: 1}, {}} {
				success, end, errno := coin.Toss(padded, p)
				wantSuccess, wantEnd, wantErrno := coin.Toss(bits, p)
				if success != wantSuccess || end != wantEnd || errno != wantErrno {
					t.Errorf("Toss(%s, %v) depends on the spare capacity", digits, p)
				}
				tosses, end, errno := coin.Turn(padded, p)
				wantTosses, wantEnd, wantErrno := coin.Turn(bits, p)
				if tosses != wantTosses || end != wantEnd || errno != wantErrno {
					t.Errorf("Turn(%s, %v) depends on the spare capacity", digits, p)
				}
			}
			for _, weights := range [][]int{{1, 1, 1, 5, -1}, {0, 2, 3, 1, 0}, {0, 0, 0, 1, 1}} {
				whole := slices.Clone(weights)
				index, end, errno := coin.Of(padded, whole[:3])
				wantIndex, wantEnd, wantErrno := coin.Of(bits, slices.Clip(slices.Clone(weights[:3])))
				if index != wantIndex || end != wantEnd || errno != wantErrno {
					t.Errorf("Of(%s, %v) depends on the spare capacity", digits, weights[:3])
				}
				if !slices.Equal(whole, weights) {
					t.Errorf("Of(%s, %v) modified the weights", digits, weights[:3])
				}
			}
			if whole := padded[:len(bits)+len(spare)]; !slices.Equal(whole, append(slices.Clone(bits), spare...)) {
				t.Errorf("the tape %s was modified", digits)
			}
		}
	}
}

// TestLongInputs stays fast only if each toss starts where the one before it ended, and if the weight left isn't summed anew.
func TestLongInputs(t *testing.T) {
	const many = 1 << 20
	bits := slices.Repeat([]bool{true}, many)
	bits[many-1] = false
	tosses, end, errno := coin.Turn(bits, api.Frac{Num: 1, Den: 2})
	if tosses != many || end != many || errno != api.OK {
		t.Errorf("Turn: got %d, %d and error %d, want %d twice", tosses, end, errno, many)
	}
	// The first bit of each weight's probability is 0 until the last two weights, so each 1 says no.
	index, end, errno := coin.Of(bits, slices.Repeat([]int{1}, many))
	if index != many-1 || end != many-1 || errno != api.OK {
		t.Errorf("Of: got %d, %d and error %d, want %d twice", index, end, errno, many-1)
	}
}
