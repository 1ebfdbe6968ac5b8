package divisor_test

import (
	"math"
	"slices"
	"testing"

	"lotdrawer/divisor"
)

func TestCommon(t *testing.T) {
	for _, c := range []struct {
		numbers []int
		want    int
	}{
		{nil, 0},
		{[]int{0}, 0},
		{[]int{0, 0, 0}, 0},
		{[]int{7}, 7},
		{[]int{0, 7}, 7},
		{[]int{7, 0}, 7},
		{[]int{1, 0}, 1},
		{[]int{12, 18}, 6},
		{[]int{18, 12}, 6},
		{[]int{6, 6}, 6},
		{[]int{5, 15}, 5},
		{[]int{8, 9}, 1},
		{[]int{6, 10, 15}, 1}, // though any two have more
		{[]int{12, 0, 18, 27}, 3},
		{[]int{0, 0, 4, 6}, 2},
		{[]int{math.MaxInt, math.MaxInt}, math.MaxInt},
		{[]int{math.MaxInt, math.MaxInt - 1}, 1},
		{[]int{math.MaxInt, 0}, math.MaxInt},
		{[]int{1 << 62, 1 << 61, 3 << 60}, 1 << 60},
	} {
		arguments := slices.Clone(c.numbers)
		if got := divisor.Common(arguments...); got != c.want {
			t.Errorf("Common(%v): got %d, want %d", c.numbers, got, c.want)
		}
		if !slices.Equal(arguments, c.numbers) {
			t.Errorf("Common(%v) changed its arguments to %v", c.numbers, arguments)
		}
	}
}

// TestCommonByTrial tries every divisor of all short lists of small numbers.
func TestCommonByTrial(t *testing.T) {
	const limit = 13
	for a := range limit {
		for b := range limit {
			for c := range limit {
				want := 0
				for d := 1; d <= max(a, b, c); d++ {
					if a%d == 0 && b%d == 0 && c%d == 0 {
						want = d
					}
				}
				if got := divisor.Common(a, b, c); got != want {
					t.Errorf("Common(%d, %d, %d): got %d, want %d", a, b, c, got, want)
				}
			}
		}
	}
}
