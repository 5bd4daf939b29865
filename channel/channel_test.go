package channel_test

import (
	"math/rand/v2"
	"slices"
	"testing"

	"quinaria/api"
	"quinaria/channel"
)

// P2.1: Check takes all that is as defined, to its ends, and nothing else.
func TestCheck(t *testing.T) {
	for i, l := range []api.ChannelLine{
		lineP(), fullLine(), one(stretch(1, 1, 0, 0, 0)), one(stretch(100, 100, 0, 100, 100)), one(stretch(1, 100, 0, 0, 100)),
		line(list(1, 1000), stretch(100, 1, 1, 7, 7)), line(slices.Repeat(list(5), 10), stretch(1, 1, 9, 0, 0)),
	} {
		if e := channel.Check(l); e != api.OK {
			t.Error(i, l, e)
		}
	}
	for i, l := range wrongLines() {
		if e := channel.Check(l); e != api.ErrArg {
			t.Error(i, l, e)
		}
	}
}

// P2.1: the chapter's examples, lime that is rounded down, stretches that are closed, and errors.
func TestCarries(t *testing.T) {
	for i, x := range []struct {
		l           api.ChannelLine
		number, age int
		want        api.Span
		e           api.Errno
	}{
		{lineP(), 0, 50, span(5000, 8960), api.OK},
		{lineP(), 1, 50, span(4600, 6000), api.OK},
		{lineP(), 2, 20, span(3240, 3240), api.OK},
		{lineP(), 2, 29, span(3240, 3240), api.OK},
		{lineP(), 2, 0, span(6000, 6000), api.OK},
		{lineP(), 1, 200, span(600, 6000), api.OK},
		// 1 times 99 hundredths is no digit yet, 1 times 100 is one.
		{one(stretch(10, 20, 0, 1, 1)), 0, 99, span(1400, 1400), api.OK},
		{one(stretch(10, 20, 0, 1, 1)), 0, 100, span(8*19*7, 8*19*7), api.OK},
		{one(stretch(10, 20, 0, 1, 1)), 0, 199, span(8*19*7, 8*19*7), api.OK},
		{one(stretch(10, 20, 0, 1, 1)), 0, 200, span(6*18*7, 6*18*7), api.OK},
		// Five digits of lime leave 1 of a breadth of 11, but close a depth of 5; four leave 3 and 1.
		{one(stretch(11, 5, 0, 99, 100)), 0, 5, span(0, 3*1*7), api.OK},
		{one(stretch(10, 20, 0, 100, 100)), 0, 4, span(2*16*7, 2*16*7), api.OK},
		{one(stretch(10, 20, 0, 100, 100)), 0, 5, span(0, 0), api.OK},
		{one(stretch(10, 20, 0, 100, 100)), 0, 6, span(0, 0), api.OK},
		{one(stretch(100, 20, 0, 100, 100)), 0, 19, span(62*7, 62*7), api.OK},
		{one(stretch(100, 20, 0, 100, 100)), 0, 20, span(0, 0), api.OK},
		// Both sides would be less than 0: that is no water either.
		{one(stretch(10, 20, 0, 100, 100)), 0, 200, span(0, 0), api.OK},
		{one(stretch(10, 20, 0, 0, 100)), 0, 200, span(0, 1400), api.OK},
		{fullLine(), 7, 0, span(10000000, 10000000), api.OK},
		{lineP(), 3, 0, span(0, 0), api.ErrArg},
		{lineP(), -1, 0, span(0, 0), api.ErrArg},
		{lineP(), huge, 0, span(0, 0), api.ErrArg},
		{lineP(), -huge - 1, 0, span(0, 0), api.ErrArg},
		{lineP(), 0, -1, span(0, 0), api.ErrArg},
		{lineP(), 0, 201, span(0, 0), api.ErrArg},
		{lineP(), 0, huge, span(0, 0), api.ErrArg},
		{lineP(), 0, -huge - 1, span(0, 0), api.ErrArg},
	} {
		if y, e := channel.Carries(x.l, x.number, x.age); y != x.want || e != x.e {
			t.Error(i, y, e)
		}
	}
	for i, l := range wrongLines() {
		if y, e := channel.Carries(l, 0, 0); y != span(0, 0) || e != api.ErrArg {
			t.Error(i, y, e)
		}
	}
}

// P2.1, P0.2: whatever rate is true, a stretch carries within the bounds; both ends are reached; and never more at a greater age.
func TestCarriesIsReached(t *testing.T) {
	r := rand.New(rand.NewPCG(2, 1))
	for range 60 {
		l := someLine(r, 3, 60)
		for number := range l.Stretches {
			before := span(huge, huge)
			for age := range 201 {
				all := cupsOf(l, number, age)
				y, e := channel.Carries(l, number, age)
				if y != span(slices.Min(all), slices.Max(all)) || e != api.OK || y.Low > before.Low || y.High > before.High {
					t.Error(l, number, age, y, e)
				}
				before = y
			}
		}
	}
}

// P2.2: the chapter's examples, one stretch, stretches that are alike, and errors.
func TestLineAndNarrowest(t *testing.T) {
	alike := line(list(7), stretch(10, 20, 0, 0, 5), stretch(20, 10, 0, 0, 0), stretch(10, 20, 0, 5, 5))
	for i, x := range []struct {
		l      api.ChannelLine
		ages   []int
		want   api.Span
		narrow []int
		e      api.Errno
	}{
		{lineP(), list(50, 50, 0), span(4600, 6000), list(0, 1, 2), api.OK},
		{lineP(), list(0, 50, 0), span(4600, 6000), list(1, 2), api.OK},
		{lineP(), list(0, 0, 0), span(6000, 6000), list(1, 2), api.OK},
		{lineP(), list(0, 0, 20), span(3240, 3240), list(2), api.OK},
		{lineP(), list(200, 0, 0), span(0, 1760), list(0), api.OK},
		{alike, list(0, 0, 0), span(1400, 1400), list(0, 1, 2), api.OK},
		// The first one carries as much as the last one with its greatest rate only.
		{alike, list(50, 0, 50), span(6*18*7, 6*18*7), list(0, 2), api.OK},
		{alike, list(49, 0, 0), span(6*18*7, 1400), list(0, 1, 2), api.OK},
		{one(stretch(10, 20, 0, 0, 5)), list(100), span(0, 1400), list(0), api.OK},
		{fullLine(), make([]int, 8), span(10000000, 10000000), list(0, 1, 2, 3, 4, 5, 6, 7), api.OK},
		{fullLine(), slices.Repeat(list(200), 8), span(0, 0), list(0, 1, 2, 3, 4, 5, 6, 7), api.OK},
		{lineP(), nil, span(0, 0), nil, api.ErrArg},
		{lineP(), list(0, 0), span(0, 0), nil, api.ErrArg},
		{lineP(), list(0, 0, 0, 0), span(0, 0), nil, api.ErrArg},
		{lineP(), list(0, 0, -1), span(0, 0), nil, api.ErrArg},
		{lineP(), list(0, 201, 0), span(0, 0), nil, api.ErrArg},
		{lineP(), list(huge, 0, 0), span(0, 0), nil, api.ErrArg},
		{lineP(), list(0, -huge-1, 0), span(0, 0), nil, api.ErrArg},
	} {
		if y, e := channel.Line(x.l, x.ages); y != x.want || e != x.e {
			t.Error(i, y, e)
		}
		if y, e := channel.Narrowest(x.l, x.ages); !slices.Equal(y, x.narrow) || e != x.e {
			t.Error(i, y, e)
		}
	}
	for i, l := range wrongLines() {
		ages := make([]int, len(l.Stretches))
		if y, e := channel.Line(l, ages); y != span(0, 0) || e != api.ErrArg {
			t.Error(i, y, e)
		}
		if y, e := channel.Narrowest(l, ages); len(y) > 0 || e != api.ErrArg {
			t.Error(i, y, e)
		}
	}
}

// P2.2, P0.2: over all truths, the line carries within the bounds, both ends are
// reached, and those that are the narrowest in some truth are returned.
func TestAllTruths(t *testing.T) {
	r := rand.New(rand.NewPCG(2, 2))
	for range 300 {
		l := someLine(r, 4, 5)
		ages := someAges(r, l)
		var sets [][]int
		for number, age := range ages {
			sets = append(sets, cupsOf(l, number, age))
		}
		want := span(huge, -1)
		is := make([]bool, len(sets))
		lists(sets, func(carried []int) {
			least := slices.Min(carried)
			want = span(min(want.Low, least), max(want.High, least))
			for number, n := range carried {
				is[number] = is[number] || n == least
			}
		})
		var narrow []int
		for number := range is {
			if is[number] {
				narrow = append(narrow, number)
			}
		}
		if y, e := channel.Line(l, ages); y != want || e != api.OK {
			t.Error(l, ages, y, e)
		}
		if y, e := channel.Narrowest(l, ages); !slices.Equal(y, narrow) || e != api.OK {
			t.Error(l, ages, y, e)
		}
	}
}
