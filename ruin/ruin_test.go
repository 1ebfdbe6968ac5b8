package ruin_test

import (
	"math"
	"math/big"
	"slices"
	"strings"
	"testing"

	"lotdrawer/api"
	"lotdrawer/ruin"
	"lotdrawer/tapetest"
	"lotdrawer/walk"
)

const (
	// highestOdds is the largest number that gives the odds of a game.
	highestOdds = 9
	// highestTop is the highest top of Well.
	highestTop = 16
)

// frac returns num/den.
func frac(num, den int) api.Frac {
	return api.Frac{Num: num, Den: den}
}

// exact returns the value of p.
func exact(p api.Frac) *big.Rat {
	return big.NewRat(int64(p.Num), int64(p.Den))
}

// mean returns the mean of two values, the first weighted with win, the other with lose.
func mean(win, lose int, ifWon, ifLost *big.Rat) *big.Rat {
	won := new(big.Rat).Mul(big.NewRat(int64(win), int64(win+lose)), ifWon)
	lost := new(big.Rat).Mul(big.NewRat(int64(lose), int64(win+lose)), ifLost)
	return won.Add(won, lost)
}

// eachOdds calls visit with all odds and tops that Well takes.
func eachOdds(visit func(win, lose, top int)) {
	for win := 1; win <= highestOdds; win++ {
		for lose := 1; lose <= highestOdds; lose++ {
			for top := 1; top <= highestTop; top++ {
				visit(win, lose, top)
			}
		}
	}
}

// well returns Well's probability for arguments that are in range, and fails the test if it's not in lowest terms.
func well(t *testing.T, win, lose, top, has int) api.Frac {
	t.Helper()
	p, errno := ruin.Well(win, lose, top, has)
	if errno != api.OK || p.Den < 1 {
		t.Fatalf("Well(%d, %d, %d, %d): got %v and error %d", win, lose, top, has, p, errno)
	}
	if reduced := exact(p); reduced.Num().Int64() != int64(p.Num) || reduced.Denom().Int64() != int64(p.Den) {
		t.Errorf("Well(%d, %d, %d, %d): %v is not in lowest terms", win, lose, top, has, p)
	}
	return p
}

func TestWrong(t *testing.T) {
	for _, c := range []struct {
		win, lose, top int
		want           api.Errno
	}{
		{1, 1, 1, api.OK},
		{9, 9, 16, api.OK},
		{1, 9, 16, api.OK},
		{9, 1, 1, api.OK},
		{9, 9, 1, api.OK},
		{1, 1, 16, api.OK},
		{0, 1, 1, api.ErrRange},
		{1, 0, 1, api.ErrRange},
		{1, 1, 0, api.ErrRange},
		{0, 0, 0, api.ErrRange},
		{10, 1, 1, api.ErrRange},
		{1, 10, 1, api.ErrRange},
		{1, 1, 17, api.ErrRange},
		{10, 9, 16, api.ErrRange},
		{9, 10, 16, api.ErrRange},
		{9, 9, 17, api.ErrRange},
		{-1, 1, 1, api.ErrRange},
		{1, -1, 1, api.ErrRange},
		{1, 1, -1, api.ErrRange},
		{-1, -1, 1, api.ErrRange},
		{16, 1, 9, api.ErrRange},
		{math.MaxInt, 1, 1, api.ErrRange},
		{1, math.MaxInt, 1, api.ErrRange},
		{1, 1, math.MaxInt, api.ErrRange},
		{math.MinInt, 1, 1, api.ErrRange},
		{1, math.MinInt, 1, api.ErrRange},
		{1, 1, math.MinInt, api.ErrRange},
	} {
		if got := ruin.Wrong(c.win, c.lose, c.top); got != c.want {
			t.Errorf("Wrong(%d, %d, %d): got %d, want %d", c.win, c.lose, c.top, got, c.want)
		}
	}
}

// TestWrongEverywhere compares all arguments in range, and those around them, with the document's ranges.
func TestWrongEverywhere(t *testing.T) {
	for win := -2; win <= highestTop+2; win++ {
		for lose := -2; lose <= highestTop+2; lose++ {
			for top := -2; top <= highestTop+2; top++ {
				want := api.ErrRange
				if 1 <= win && win <= highestOdds && 1 <= lose && lose <= highestOdds && 1 <= top && top <= highestTop {
					want = api.OK
				}
				if got := ruin.Wrong(win, lose, top); got != want {
					t.Errorf("Wrong(%d, %d, %d): got %d, want %d", win, lose, top, got, want)
				}
			}
		}
	}
}

func TestWell(t *testing.T) {
	for _, c := range []struct {
		win, lose, top, has int
		want                api.Frac
		errno               api.Errno
	}{
		{1, 2, 3, 1, frac(1, 7), api.OK}, // the document's example
		{1, 2, 3, 2, frac(3, 7), api.OK},
		{2, 1, 3, 1, frac(4, 7), api.OK},
		{3, 6, 3, 1, frac(1, 7), api.OK}, // the odds of the example
		{1, 1, 4, 1, frac(1, 4), api.OK},
		{1, 1, 4, 2, frac(1, 2), api.OK}, // not 2/4
		{2, 2, 4, 3, frac(3, 4), api.OK},
		{9, 9, 16, 7, frac(7, 16), api.OK},
		{9, 9, 16, 12, frac(3, 4), api.OK},
		{6, 9, 2, 1, frac(2, 5), api.OK},
		{1, 1, 1, 0, frac(0, 1), api.OK}, // nothing to play
		{1, 1, 1, 1, frac(1, 1), api.OK},
		{2, 3, 1, 0, frac(0, 1), api.OK},
		{2, 3, 1, 1, frac(1, 1), api.OK},
		{2, 3, 16, 0, frac(0, 1), api.OK},
		{2, 3, 16, 16, frac(1, 1), api.OK},
		{9, 9, 16, 0, frac(0, 1), api.OK},
		{9, 9, 16, 16, frac(1, 1), api.OK},
		// From here on, from a separate program that solves the equations of the capitals in between.
		{4, 6, 10, 5, frac(32, 275), api.OK},
		{6, 4, 10, 5, frac(243, 275), api.OK},
		{3, 2, 12, 4, frac(6561, 8113), api.OK},
		{9, 7, 15, 10, frac(4479220944, 4761696193), api.OK},
		{7, 5, 16, 11, frac(16206138136363, 16540171339488), api.OK},
		{9, 8, 16, 8, frac(43046721, 59823937), api.OK},
		{8, 9, 16, 8, frac(16777216, 59823937), api.OK},
		{1, 9, 16, 1, frac(1, 231627523606480), api.OK},
		{1, 9, 16, 15, frac(25736391511831, 231627523606480), api.OK},
		{9, 1, 16, 1, frac(205891132094649, 231627523606480), api.OK},
		{9, 1, 16, 15, frac(231627523606479, 231627523606480), api.OK},
		{8, 9, 16, 1, frac(35184372088832, 1571545212141185), api.OK},
		{8, 9, 16, 15, frac(1365654080046536, 1571545212141185), api.OK},
		{9, 8, 16, 15, frac(1536360840052353, 1571545212141185), api.OK},
		{1, 1, 4, 5, frac(0, 0), api.ErrNone},
		{1, 1, 4, -1, frac(0, 0), api.ErrNone},
		{1, 2, 16, 17, frac(0, 0), api.ErrNone},
		{1, 1, 1, 2, frac(0, 0), api.ErrNone},
		{1, 1, 4, math.MaxInt, frac(0, 0), api.ErrNone},
		{1, 1, 4, math.MinInt, frac(0, 0), api.ErrNone},
		{0, 1, 4, 1, frac(0, 0), api.ErrRange},
		{1, 0, 4, 1, frac(0, 0), api.ErrRange},
		{10, 1, 4, 1, frac(0, 0), api.ErrRange},
		{1, 10, 4, 1, frac(0, 0), api.ErrRange},
		{1, 1, 0, 0, frac(0, 0), api.ErrRange},
		{1, 1, 17, 1, frac(0, 0), api.ErrRange},
		{1, 1, 17, 17, frac(0, 0), api.ErrRange},
		{0, 0, 0, 0, frac(0, 0), api.ErrRange},
		{-1, 1, 4, 0, frac(0, 0), api.ErrRange},
		{1, -1, 4, 4, frac(0, 0), api.ErrRange},
		{0, 1, 4, 5, frac(0, 0), api.ErrRange}, // the error of Wrong is first
		{1, 10, 4, -1, frac(0, 0), api.ErrRange},
		{1, 1, 0, 1, frac(0, 0), api.ErrRange},
		{1, 1, 17, 18, frac(0, 0), api.ErrRange},
		{1, 1, -1, -1, frac(0, 0), api.ErrRange},
		{1, 1, math.MaxInt, 1, frac(0, 0), api.ErrRange},
		{1, 1, math.MinInt, 1, frac(0, 0), api.ErrRange},
		{math.MaxInt, math.MaxInt, 4, 1, frac(0, 0), api.ErrRange},
		{math.MinInt, math.MinInt, math.MinInt, math.MinInt, frac(0, 0), api.ErrRange},
	} {
		got, errno := ruin.Well(c.win, c.lose, c.top, c.has)
		if got != c.want || errno != c.errno {
			t.Errorf("Well(%d, %d, %d, %d): got %v and error %d, want %v and error %d",
				c.win, c.lose, c.top, c.has, got, errno, c.want, c.errno)
		}
	}
}

// TestWellByNeighbors checks the document's equations, which have one solution, for all arguments.
func TestWellByNeighbors(t *testing.T) {
	eachOdds(func(win, lose, top int) {
		if p := well(t, win, lose, top, 0); p != frac(0, 1) {
			t.Errorf("Well(%d, %d, %d, 0): got %v, want 0/1", win, lose, top, p)
		}
		if p := well(t, win, lose, top, top); p != frac(1, 1) {
			t.Errorf("Well(%d, %d, %d, %d): got %v, want 1/1", win, lose, top, top, p)
		}
		for has := 1; has < top; has++ {
			more := exact(well(t, win, lose, top, has+1))
			less := exact(well(t, win, lose, top, has-1))
			p := well(t, win, lose, top, has)
			if want := mean(win, lose, more, less); exact(p).Cmp(want) != 0 {
				t.Errorf("Well(%d, %d, %d, %d): got %v, want %v", win, lose, top, has, p, want)
			}
		}
	})
}

// TestWellOfBoth checks that play ends for one player or the other: a loss is the other's win.
func TestWellOfBoth(t *testing.T) {
	eachOdds(func(win, lose, top int) {
		for has := range top + 1 {
			one, other := well(t, win, lose, top, has), well(t, lose, win, top, top-has)
			if one.Num+other.Num != one.Den || one.Den != other.Den {
				t.Errorf("with odds %d to %d, top %d and capital %d: %v and %v aren't 1 together",
					win, lose, top, has, one, other)
			}
		}
	})
}

// TestWellWithEqualOdds checks that a player with has of top reaches top in has of top cases.
func TestWellWithEqualOdds(t *testing.T) {
	for odds := 1; odds <= highestOdds; odds++ {
		for top := 1; top <= highestTop; top++ {
			for has := range top + 1 {
				if p := well(t, odds, odds, top, has); p.Num*top != has*p.Den {
					t.Errorf("Well(%d, %d, %d, %d): got %v, want %d/%d", odds, odds, top, has, p, has, top)
				}
			}
		}
	}
}

func TestFair(t *testing.T) {
	for _, c := range []struct {
		top, has, want int
		errno          api.Errno
	}{
		{5, 2, 6, api.OK}, // the document's example
		{5, 0, 0, api.OK},
		{5, 1, 4, api.OK},
		{5, 3, 6, api.OK},
		{5, 4, 4, api.OK},
		{5, 5, 0, api.OK},
		{1, 0, 0, api.OK},
		{1, 1, 0, api.OK},
		{2, 1, 1, api.OK},
		{17, 8, 72, api.OK},
		{17, 16, 16, api.OK},
		{400, 0, 0, api.OK},
		{400, 1, 399, api.OK},
		{400, 200, 40000, api.OK},
		{400, 399, 399, api.OK},
		{400, 400, 0, api.OK},
		{5, 6, 0, api.ErrNone},
		{5, -1, 0, api.ErrNone},
		{1, 2, 0, api.ErrNone},
		{400, 401, 0, api.ErrNone},
		{5, math.MaxInt, 0, api.ErrNone},
		{5, math.MinInt, 0, api.ErrNone},
		{0, 0, 0, api.ErrRange},
		{401, 1, 0, api.ErrRange},
		{401, 401, 0, api.ErrRange},
		{-1, 0, 0, api.ErrRange},
		{-1, -1, 0, api.ErrRange},
		{0, 1, 0, api.ErrRange}, // top is checked first
		{401, 402, 0, api.ErrRange},
		{401, -1, 0, api.ErrRange},
		{math.MaxInt, 2, 0, api.ErrRange},
		{math.MinInt, 2, 0, api.ErrRange},
		{math.MaxInt, math.MinInt, 0, api.ErrRange},
	} {
		got, errno := ruin.Fair(c.top, c.has)
		if got != c.want || errno != c.errno {
			t.Errorf("Fair(%d, %d): got %d and error %d, want %d and error %d",
				c.top, c.has, got, errno, c.want, c.errno)
		}
	}
}

// TestFairByNeighbors checks the document's equations, which have one solution, for all arguments.
func TestFairByNeighbors(t *testing.T) {
	for top := 1; top <= api.MaxOps; top++ {
		var games []int
		for has := range top + 1 {
			expected, errno := ruin.Fair(top, has)
			if errno != api.OK {
				t.Fatalf("Fair(%d, %d): error %d", top, has, errno)
			}
			games = append(games, expected)
		}
		if games[0] != 0 || games[top] != 0 {
			t.Errorf("Fair(%d, ...): got %d games from 0 and %d from top", top, games[0], games[top])
		}
		for has := 1; has < top; has++ {
			if 2*games[has] != 2+games[has-1]+games[has+1] {
				t.Errorf("Fair(%d, %d): got %d between %d and %d", top, has, games[has], games[has-1], games[has+1])
			}
		}
	}
}

func TestPlay(t *testing.T) {
	for _, c := range []struct {
		top, has       int
		digits         string
		capital, games int
		errno          api.Errno
	}{
		{3, 1, "11", 3, 2, api.OK},
		{3, 1, "0", 0, 1, api.OK},
		{3, 1, "100", 0, 3, api.OK},
		{3, 1, "1011", 3, 4, api.OK},
		{3, 2, "1", 3, 1, api.OK},
		{3, 2, "00", 0, 2, api.OK},
		{3, 1, "110", 3, 2, api.OK}, // what follows the end of play doesn't matter
		{3, 1, "11000000", 3, 2, api.OK},
		{3, 1, "0111111", 0, 1, api.OK},
		{3, 0, "", 0, 0, api.OK}, // nothing to play
		{3, 3, "", 3, 0, api.OK},
		{3, 0, "11", 0, 0, api.OK},
		{3, 3, "00", 3, 0, api.OK},
		{1, 0, "", 0, 0, api.OK},
		{1, 1, "", 1, 0, api.OK},
		{1, 0, "1", 0, 0, api.OK},
		{1, 1, "0", 1, 0, api.OK},
		{2, 1, "1", 2, 1, api.OK},
		{2, 1, "0", 0, 1, api.OK},
		{400, 400, "", 400, 0, api.OK},
		{400, 0, "", 0, 0, api.OK},
		{400, 1, strings.Repeat("1", 399), 400, 399, api.OK},
		{400, 399, strings.Repeat("0", 399), 0, 399, api.OK},
		{400, 399, "1", 400, 1, api.OK},
		{4, 2, strings.Repeat("10", 1000) + "11", 4, 2002, api.OK}, // no limit to the games
		{3, 1, "1", 0, 0, api.ErrEnd},
		{3, 1, "", 0, 0, api.ErrEnd},
		{3, 2, "0", 0, 0, api.ErrEnd},
		{3, 1, "101", 0, 0, api.ErrEnd},
		{2, 1, "", 0, 0, api.ErrEnd},
		{400, 1, strings.Repeat("1", 398), 0, 0, api.ErrEnd},
		{400, 399, strings.Repeat("0", 398), 0, 0, api.ErrEnd},
		{4, 2, strings.Repeat("10", 1000), 0, 0, api.ErrEnd},
		{0, 0, "11", 0, 0, api.ErrRange},
		{0, 0, "", 0, 0, api.ErrRange},
		{401, 1, "0", 0, 0, api.ErrRange},
		{401, 401, "", 0, 0, api.ErrRange},
		{401, 0, "", 0, 0, api.ErrRange},
		{-1, -1, "", 0, 0, api.ErrRange},
		{-1, 0, "", 0, 0, api.ErrRange},
		{3, 4, "0", 0, 0, api.ErrRange},
		{3, -1, "1", 0, 0, api.ErrRange},
		{3, 4, "", 0, 0, api.ErrRange}, // before the end of the tape is checked
		{3, -1, "", 0, 0, api.ErrRange},
		{401, 200, "", 0, 0, api.ErrRange},
		{math.MaxInt, 1, "0", 0, 0, api.ErrRange},
		{math.MinInt, 1, "0", 0, 0, api.ErrRange},
		{3, math.MaxInt, "0", 0, 0, api.ErrRange},
		{3, math.MinInt, "0", 0, 0, api.ErrRange},
	} {
		tape := tapetest.WithSpare(tapetest.Of(c.digits), tapetest.Of("11110000"))
		whole := slices.Clone(tape[:cap(tape)])
		capital, games, errno := ruin.Play(c.top, c.has, tape)
		if capital != c.capital || games != c.games || errno != c.errno {
			t.Errorf("Play(%d, %d, %s): got %d, %d and error %d, want %d, %d and error %d",
				c.top, c.has, c.digits, capital, games, errno, c.capital, c.games, c.errno)
		}
		if !slices.Equal(tape[:cap(tape)], whole) {
			t.Errorf("Play(%d, %d, %s) changed the tape", c.top, c.has, c.digits)
		}
	}
}

func TestPlayWithoutTape(t *testing.T) {
	for _, c := range []struct {
		has, capital int
		errno        api.Errno
	}{{0, 0, api.OK}, {1, 0, api.ErrEnd}, {2, 2, api.OK}, {3, 0, api.ErrRange}} {
		for _, tape := range [][]bool{nil, {}} {
			if capital, games, errno := ruin.Play(2, c.has, tape); capital != c.capital || games != 0 || errno != c.errno {
				t.Errorf("Play(2, %d, no bits): got %d, %d and error %d, want %d, 0 and error %d",
					c.has, capital, games, errno, c.capital, c.errno)
			}
		}
	}
}

// tapeLength is the length of the tapes that the tests below play, all of them.
const tapeLength = 9

// capitals returns the capital before the first game of a tape and after each of its games, whether play has ended or not.
func capitals(has int, digits string) []int {
	all := []int{has}
	for i := range digits {
		wins := strings.Count(digits[:i+1], "1")
		all = append(all, has+2*wins-(i+1))
	}
	return all
}

// played returns the capital and the number of games when play ends or, failing that, when the tape does.
func played(top, has int, digits string) (capital, games int, ended bool) {
	all := capitals(has, digits)
	for i, c := range all {
		if c == 0 || c == top {
			return c, i, true
		}
	}
	return all[len(digits)], len(digits), false
}

// TestPlayEveryTape compares every tape with the first of its capitals that is 0 or top.
func TestPlayEveryTape(t *testing.T) {
	for _, digits := range tapetest.All(tapeLength) {
		tape := tapetest.Of(digits)
		for top := 1; top <= tapeLength; top++ {
			for has := range top + 1 {
				wantCapital, wantGames, ended := played(top, has, digits)
				want := api.OK
				if !ended {
					wantCapital, wantGames, want = 0, 0, api.ErrEnd
				}
				capital, games, errno := ruin.Play(top, has, tape)
				if capital != wantCapital || games != wantGames || errno != want {
					t.Errorf("Play(%d, %d, %s): got %d, %d and error %d, want %d, %d and error %d",
						top, has, digits, capital, games, errno, wantCapital, wantGames, want)
				}
			}
		}
	}
}

// TestUnfinishedPlays counts the tapes that end before play does: they are the paths between 0 and top.
func TestUnfinishedPlays(t *testing.T) {
	for top := 1; top <= tapeLength; top++ {
		for has := range top + 1 {
			unfinished := 0
			for _, digits := range tapetest.All(tapeLength) {
				if _, _, errno := ruin.Play(top, has, tapetest.Of(digits)); errno == api.ErrEnd {
					unfinished++
				}
			}
			paths := 0
			for to := range top {
				count, _ := walk.Between(tapeLength, has, to, top)
				paths += count
			}
			if unfinished != paths {
				t.Errorf("from %d with top %d: %d of all tapes are unfinished, but there are %d paths",
					has, top, unfinished, paths)
			}
		}
	}
}

// TestWellByPlaying plays every tape: on average, weighted with the odds, the probability stays what it was at first.
func TestWellByPlaying(t *testing.T) {
	for _, odds := range [][2]int{{1, 1}, {1, 2}, {2, 1}, {2, 3}, {9, 1}, {4, 6}} {
		win, lose := odds[0], odds[1]
		for top := 1; top <= 6; top++ {
			for has := range top + 1 {
				sum, weights := new(big.Rat), 0
				for _, digits := range tapetest.All(tapeLength) {
					weight := 1
					for _, digit := range digits {
						weight *= map[rune]int{'0': lose, '1': win}[digit]
					}
					capital, _, _ := played(top, has, digits)
					p := exact(well(t, win, lose, top, capital))
					sum.Add(sum, p.Mul(p, big.NewRat(int64(weight), 1)))
					weights += weight
				}
				p := well(t, win, lose, top, has)
				if sum.Quo(sum, big.NewRat(int64(weights), 1)).Cmp(exact(p)) != 0 {
					t.Errorf("Well(%d, %d, %d, %d): got %v, but on average the tapes give %v",
						win, lose, top, has, p, sum)
				}
			}
		}
	}
}

// TestFairByPlaying plays every tape: on average, the games played and those that are expected to follow are as many
// as were expected at first.
func TestFairByPlaying(t *testing.T) {
	tapes := tapetest.All(tapeLength)
	for top := 1; top <= tapeLength; top++ {
		for has := range top + 1 {
			sum := 0
			for _, digits := range tapes {
				capital, games, _ := played(top, has, digits)
				rest, _ := ruin.Fair(top, capital)
				sum += games + rest
			}
			if expected, _ := ruin.Fair(top, has); sum != expected*len(tapes) {
				t.Errorf("Fair(%d, %d): got %d games, but all %d tapes give %d", top, has, expected, len(tapes), sum)
			}
		}
	}
}
