package stone_test

import (
	"math/rand/v2"
	"slices"
	"testing"
	"time"

	"quinaria/api"
	"quinaria/stone"
)

// P9.5: the chapter's lists, and edges.
func TestWrong(t *testing.T) {
	for i, x := range []struct {
		l    api.StoneLine
		want []int
		e    api.Errno
	}{
		{lineA(), nil, api.OK}, {lineB(), list(0), api.OK}, {smallLine(), nil, api.OK}, {wideLine(8), nil, api.OK}, {fullLine(), nil, api.ErrNone},
		{line("- -", 1, 1, 2, 2, 99, 99), nil, api.ErrNone}, {line("5 -", 1, 1, 2, 2, 99, 99), nil, api.ErrNone}, {line("- -", 1, 1, 2, 2, 98, 98), nil, api.OK}, {line("- -", 90, 90, 2, 2, 91, 179), nil, api.ErrNone},
		{line("5 7", 1, 1, 2, 2, 1, 1), list(0), api.OK}, {line("5 o7", 1, 1, 13, 13, 1, 1), nil, api.OK}, {line("5 o7", 1, 1, 12, 12, 1, 1), list(0), api.OK}, {line("0 5", 1, 1, 2, 2, 1, 1), list(0), api.OK}, {line("5 0", 1, 1, 2, 2, 1, 1), list(1), api.OK},
		{line("00 01", 1, 1, 2, 2, 1, 1), list(0, 1), api.OK}, {line("1 5 3", 1, 1, 2, 2, 1, 1, 1, 1), list(1), api.OK}, {line("- 5 -", 1, 1, 2, 2, 97, 97, 1, 1), list(1), api.OK}, {line("- 5 o-", 1, 1, 2, 2, 1, 1, 1, 1), nil, api.OK},
		{line("9? - 9", 1, 1, 2, 2, 1, 90, 1, 90), list(0), api.OK}, {line("99 -", 1, 1, 2, 2, 1, 1), list(0), api.OK}, {line("- 1", 1, 1, 2, 2, 1, 1), list(1), api.OK},
		{line("3 9 5 9 7 9", append(list(1, 1, 2, 2), slices.Repeat(list(1, 1), 5)...)...), list(1, 3, 5), api.OK}, {line("9 3 9 5 9 7", append(list(1, 1, 2, 2), slices.Repeat(list(1, 1), 5)...)...), list(0, 2, 4), api.OK},
		{line("1 2 11 12", 1, 1, 2, 2, 1, 1, 1, 1, 1, 1), list(0, 1), api.OK}, {line("1 8 3 9", 1, 1, 2, 2, 1, 1, 1, 1, 1, 1), list(1, 3), api.OK}, {line("11 2 13 4", 1, 1, 2, 2, 1, 1, 1, 1, 1, 1), list(0, 2), api.OK},
		{line("0 0 0 0 0 0 0 0", append(list(1, 1, 2, 2), slices.Repeat(list(1, 1), 7)...)...), list(0, 1, 2, 3, 4, 5, 6, 7), api.OK}, {line("- 0 - 0 - 0 - 0", append(list(1, 1, 2, 2), slices.Repeat(list(1, 1), 7)...)...), list(1, 3, 5, 7), api.OK},
		// The old numbers of both cannot be what is left with one Turn; and without its Text a stone needs no old number.
		{line("o9 o9", 1, 1, 20, 30, 1, 1), list(0), api.OK}, {line("o9 o8", 1, 1, 20, 30, 1, 1), nil, api.OK}, {line("20 o5", 1, 1, 2, 12, 1, 1), list(0), api.OK}, {line("20 o? 22", 1, 1, 2, 12, 1, 1, 1, 1), list(1), api.OK},
	} {
		if y, e := stone.Wrong(x.l); !slices.Equal(y, x.want) || e != x.e {
			t.Error(i, y, e)
		}
	}
	for i, l := range wrongLines() {
		if y, e := stone.Wrong(l); len(y) > 0 || e != api.ErrArg {
			t.Error(i, y, e)
		}
	}
}

// P9.5: no fewer Texts are enough, nor as many that come before.
func TestWrongOfLines(t *testing.T) {
	r := rand.New(rand.NewPCG(9, 9))
	left := map[int]int{}
	for range 600 {
		l := misread(r, someLine(r, 2+r.IntN(7), r.IntN(2)), r.IntN(5))
		if r.IntN(20) == 0 {
			l.Gaps[r.IntN(len(l.Gaps))] = api.Span{Low: 50000, High: 50000}
		}
		y, e := stone.Wrong(l)
		want, some := wrongIn(l)
		if some && (e != api.OK || !slices.Equal(y, want)) || !some && (e != api.ErrNone || len(y) > 0) {
			t.Error(l, y, e, want)
		}
		left[len(want)]++
	}
	for many := range 4 {
		if left[many] < 15 {
			t.Error(many, left)
		}
	}
}

// wrongIn returns the first of the fewest stones without whose Texts a line is possible, and whether there are some.
func wrongIn(l api.StoneLine) ([]int, bool) {
	for _, stones := range partsOf(textsIn(l)) {
		if isPossible(withoutTexts(l, stones), anyNumber) {
			return stones, true
		}
	}
	return nil, false
}

// P0.1: the longest searches end soon.
func TestLongSearches(t *testing.T) {
	begin := time.Now()
	l := line("9? 8? 7? 6? 5? 4? 3? 2?", append(list(1, 500, 190, 200), slices.Repeat(list(1, 50000), 7)...)...)
	if y, e := stone.Wrong(l); !slices.Equal(y, list(0, 1, 2, 3, 4, 5, 6)) || e != api.OK {
		t.Error(y, e)
	}
	for n := range 99 {
		if y, e := stone.Where(wideLine(8), n+1); len(y) != 17 || e != api.OK {
			t.Error(n, y, e)
		}
	}
	if d := time.Since(begin); d > 20*time.Second {
		t.Error(d)
	}
}
