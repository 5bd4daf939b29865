package castle_test

import (
	"math/rand/v2"
	"slices"
	"testing"

	"quinaria/api"
	"quinaria/castle"
)

// P4.5: the chapter's example, a change to the own height, water that goes over the weir, and errors.
func TestGains(t *testing.T) {
	for i, x := range []struct {
		b    api.CastleBasin
		x    api.CastleChange
		cups int
		want []int
		over int
	}{
		{castleA(), change(2, 10), 30, list(-4, -5, 9), 0},
		{castleA(), change(2, 12), 30, list(0, 0, 0), 0},
		{castleA(), change(0, 0), 30, list(2, -1, -1), 0},
		{castleA(), change(2, 40), 30, list(2, 7, -9), 0},
		{castleA(), change(2, 40), 78, list(0, 0, -45), 45},
		{castleA(), change(2, 10), 78, list(0, 0, 0), 0},
		{castleA(), change(0, 40), 10000, list(-10, 0, 0), 10},
		{castleA(), change(0, 38), 10000, list(-6, 0, 0), 6},
		{castleA(), change(1, 0), 0, list(0, 0, 0), 0},
		{castleB(), change(1, 9), 25, list(0, -8), 8},
		{castleB(), change(1, 9), 17, list(4, -5), 1},
		{highCastle(), change(1, 39), 3, list(0, 1), -1},
		{highCastle(), change(1, 0), 10000, list(0, 7), -7},
		{fullCastle(), change(5, 40), 10000, list(0, 0, 0, 0, 0, -1000), 1000},
	} {
		if y, over, e := castle.Gains(x.b, x.x, x.cups); !slices.Equal(y, x.want) || over != x.over || e != api.OK {
			t.Error(i, y, over, e)
		}
	}
	wrong := func(b api.CastleBasin, x api.CastleChange, cups int) {
		if y, over, e := castle.Gains(b, x, cups); len(y) > 0 || over != 0 || e != api.ErrArg {
			t.Error(b, x, cups, y, over, e)
		}
	}
	for _, b := range wrongCastles() {
		wrong(b, change(0, 10), 30)
	}
	for _, i := range list(-1, 3, huge, -huge-1) {
		wrong(castleA(), change(i, 10), 30)
	}
	for _, height := range wrongHeights() {
		wrong(castleA(), change(2, height), 30)
	}
	for _, cups := range wrongCups() {
		wrong(castleA(), change(2, 10), cups)
	}
}

// P4.5, P0.4: gains are as defined and together 0; a nozzle that is set lower never gets less, and nobody else more.
func TestNobodyElseGains(t *testing.T) {
	r := rand.New(rand.NewPCG(4, 5))
	for range 3000 {
		b := someCastle(r, 6)
		x, cups := someChange(r, b), someCups(r, b)
		before, overBefore := sharesOf(b, cups)
		after, overAfter := sharesOf(withChange(b, x), cups)
		y, over, e := castle.Gains(b, x, cups)
		if e != api.OK || over != overAfter-overBefore || len(y) != len(before) {
			t.Fatal(b, x, cups, y, over, e)
		}
		total := over
		lower := x.Height <= b.Nozzles[x.Nozzle].Height
		for i, n := range y {
			total += n
			if n != after[i]-before[i] || lower && (i == x.Nozzle && n < 0 || i != x.Nozzle && n > 0) {
				t.Error(b, x, cups, y, before, after)
			}
		}
		if total != 0 || lower && over > 0 {
			t.Error(b, x, cups, y, over)
		}
	}
}

// P4.6: the chapter's examples, claims that are met already, which heights they are of several, the ends of what a nozzle can be moved, and errors.
func TestMends(t *testing.T) {
	same := basin(tableOf(10), 40, 0, 0, 10, 0, 10)
	for i, x := range []struct {
		b      api.CastleBasin
		claims []int
		cups   int
		want   []int
		change int
		e      api.Errno
	}{
		{castleA(), list(8, 12, 12), 33, list(10, 11, 12), 1, api.OK},
		{castleA(), list(40, 0, 0), 33, nil, 0, api.ErrNone},
		{castleA(), list(8, 13, 9), 30, list(10, 10, 12), 0, api.OK},
		{castleA(), list(0, 0, 0), 0, list(10, 10, 12), 0, api.OK},
		{castleA(), list(1, 0, 0), 0, nil, 0, api.ErrNone},
		{castleA(), list(10, 20, 45), 75, list(10, 10, 12), 0, api.OK},
		{castleA(), list(10, 20, 46), 10000, nil, 0, api.ErrNone},
		{castleA(), list(10000, 10000, 10000), 10000, nil, 0, api.ErrNone},
		{same, list(6, 4), 10, list(10, 10), 0, api.OK},
		{same, list(4, 6), 10, list(10, 9), 1, api.OK},
		// Each digit gives both 2 cups more, so that nothing gives both 5.
		{same, list(5, 5), 10, nil, 0, api.ErrNone},
		// 11 and 8 give 2 and 8, as do 12 and 9: the first ones of both come first.
		{same, list(0, 7), 10, list(11, 8), 3, api.OK},
		{same, list(0, 8), 10, list(11, 8), 3, api.OK},
		{same, list(0, 10), 10, nil, 0, api.ErrNone},
		{same, list(10, 1), 10, nil, 0, api.ErrNone},
		// So are 18 and 20 before 19 and 21.
		{basin(tableOf(10), 40, 0, 0, 20, 0, 20), list(6, 0), 6, list(18, 20), 2, api.OK},
		// No nozzle is set lower than at 0.
		{basin(tableOf(10), 40, 0, 0, 0, 0, 0), list(0, 8), 10, nil, 0, api.ErrNone},
		{basin(tableOf(10), 40, 0, 0, 0, 0, 1), list(0, 6), 10, list(1, 0), 2, api.OK},
		{basin(tableOf(10), 40, 100, 0, 40), list(2), 2, list(39), 1, api.OK},
		{basin(tableOf(10), 40, 100, 0, 40), list(3), 10000, list(38), 2, api.OK},
		{basin(tableOf(10), 40, 100, 0, 40), list(5), 10000, nil, 0, api.ErrNone},
		{highCastle(), list(0, 1), 10000, list(40, 39), 1, api.OK},
		{fullCastle(), list(1000, 1000, 1000, 1000, 1000, 1000), 10000, list(0, 0, 0, 0, 0, 0), 0, api.OK},
		{fullCastle(), list(0, 0, 0, 0, 0, 1000), 1000, nil, 0, api.ErrNone},
	} {
		if y, n, e := castle.Mends(x.b, x.claims, x.cups); !slices.Equal(y, x.want) || n != x.change || e != x.e {
			t.Error(i, y, n, e)
		}
	}
	wrong := func(b api.CastleBasin, claims []int, cups int) {
		if y, n, e := castle.Mends(b, claims, cups); len(y) > 0 || n != 0 || e != api.ErrArg {
			t.Error(b, claims, cups, y, n, e)
		}
	}
	for _, b := range wrongCastles() {
		wrong(b, make([]int, len(b.Nozzles)), 30)
	}
	for _, claims := range lists(nil, list(0), list(0, 0), list(0, 0, 0, 0)) {
		wrong(castleA(), claims, 30)
	}
	for _, cups := range wrongCups() {
		wrong(castleA(), list(cups, 40, 0), 30)
		wrong(castleA(), list(40, 0, cups), 30)
		wrong(castleA(), list(40, 0, 0), cups)
	}
}

// mendsOf returns the best heights by looking at all lists of heights that are near enough.
func mendsOf(b api.CastleBasin, claims []int, cups int) (heights []int, change int, e api.Errno) {
	e = api.ErrNone
	all := lists(nil)
	for _, x := range b.Nozzles {
		var more [][]int
		for _, heights := range all {
			for height := range 41 {
				if max(height-x.Height, x.Height-height) <= 2 {
					more = append(more, append(slices.Clone(heights), height))
				}
			}
		}
		all = more
	}
	for _, other := range all {
		n := 0
		for i, x := range b.Nozzles {
			n += max(other[i]-x.Height, x.Height-other[i])
		}
		if e == api.OK && (n > change || n == change && slices.Compare(other, heights) >= 0) {
			continue
		}
		shares, _ := sharesOf(withHeights(b, other), cups)
		if !isLess(shares, claims) {
			heights, change, e = other, n, api.OK
		}
	}
	return heights, change, e
}

// isLess reports whether any share is less than its claim.
func isLess(shares, claims []int) bool {
	for i, n := range shares {
		if n < claims[i] {
			return true
		}
	}
	return false
}

// someClaims returns claims that some other heights often meet.
func someClaims(r *rand.Rand, b api.CastleBasin, cups int) []int {
	var other []int
	for _, x := range b.Nozzles {
		other = append(other, min(40, max(0, x.Height-2+r.IntN(5))))
	}
	claims, _ := sharesOf(withHeights(b, other), cups)
	for i := range claims {
		claims[i] = min(10000, max(0, claims[i]-r.IntN(3)))
		if r.IntN(20) == 0 {
			claims[i]++
		}
	}
	return claims
}

// P4.6: no other heights that suffice have a lesser change, or as great a one and come before.
func TestNoHeightsAreBetter(t *testing.T) {
	r := rand.New(rand.NewPCG(4, 6))
	found := map[api.Errno]int{}
	for range 400 {
		b := someCastle(r, 4)
		cups := someCups(r, b)
		claims := someClaims(r, b, cups)
		heights, n, e := mendsOf(b, claims, cups)
		found[e]++
		if y, m, f := castle.Mends(b, claims, cups); !slices.Equal(y, heights) || m != n || f != e {
			t.Error(b, claims, cups, y, m, f, heights, n, e)
		}
	}
	if found[api.OK] < 100 || found[api.ErrNone] < 20 {
		t.Error("too few of a kind", found)
	}
}

// P4.7: the chapter's example, counts with which all changes agree, and none, and errors.
func TestLowered(t *testing.T) {
	every := span(0, 10000)
	one := basin(tableOf(10), 40, 100, 0, 40)
	// to returns all changes of a nozzle to heights from one to another one.
	to := func(nozzle, low, high int) (out []api.CastleChange) {
		for height := low; height <= high; height++ {
			out = append(out, change(nozzle, height))
		}
		return out
	}
	for i, x := range []struct {
		b      api.CastleBasin
		cups   int
		counts []api.Span
		want   []api.CastleChange
	}{
		{castleA(), 30, spans(4, 4, 8, 8, 18, 18), changes(2, 9, 2, 10)},
		{castleA(), 30, spans(4, 4, 8, 8, 17, 18), changes(2, 9, 2, 10)},
		{castleA(), 30, spans(4, 4, 8, 8, 19, 19), nil},
		{castleA(), 75, spans(10, 10, 20, 20, 0, 9), to(2, 27, 40)},
		{one, 0, []api.Span{every}, to(0, 0, 39)},
		{one, 5, []api.Span{span(5, 5)}, to(0, 0, 37)},
		{one, 5, []api.Span{span(4, 4)}, changes(0, 38)},
		{one, 5, []api.Span{span(2, 2)}, changes(0, 39)},
		// The height that the nozzle has is none, though the castle agrees.
		{one, 5, []api.Span{span(0, 0)}, nil},
		{one, 5, []api.Span{span(0, 4)}, changes(0, 38, 0, 39)},
		{basin(tableOf(10), 40, 0, 0, 3), 5, []api.Span{span(5, 5)}, slices.Concat(to(0, 0, 2), to(0, 4, 37))},
		{basin(tableOf(10), 40, 0, 0, 0, 0, 0), 10, spans(0, 0, 10, 10), to(0, 5, 40)},
		{basin(tableOf(10), 40, 0, 0, 2, 0, 2), 0, []api.Span{every, every}, slices.Concat(to(0, 0, 1), to(0, 3, 40), to(1, 0, 1), to(1, 3, 40))},
		{highCastle(), 10000, spans(0, 0, 7, 7), to(1, 0, 35)},
	} {
		if y, e := castle.Lowered(x.b, x.cups, x.counts); !slices.Equal(y, x.want) || e != api.OK {
			t.Error(i, y, e)
		}
	}
	wrong := func(b api.CastleBasin, cups int, counts []api.Span) {
		if y, e := castle.Lowered(b, cups, counts); len(y) > 0 || e != api.ErrArg {
			t.Error(b, cups, counts, y, e)
		}
	}
	for _, b := range wrongCastles() {
		wrong(b, 30, make([]api.Span, len(b.Nozzles)))
	}
	for _, cups := range wrongCups() {
		wrong(castleA(), cups, spans(4, 4, 8, 8, 18, 18))
	}
	for n := range 6 {
		if n != 3 {
			wrong(castleA(), 30, slices.Repeat([]api.Span{every}, n))
		}
	}
	for _, x := range wrongSpans(10000) {
		wrong(castleA(), 30, []api.Span{x, every, every})
		wrong(castleA(), 30, []api.Span{every, every, x})
	}
}

// P4.7: whatever single change is true, it is returned, and only those are with which the castle agrees, in their order.
func TestTrueChangeIsFound(t *testing.T) {
	r := rand.New(rand.NewPCG(4, 7))
	for range 300 {
		b := someCastle(r, 6)
		truth, cups := someChange(r, b), someCups(r, b)
		var counts []api.Span
		shares, _ := sharesOf(withChange(b, truth), cups)
		for _, n := range shares {
			counts = append(counts, span(max(0, n-r.IntN(3)), min(10000, n+r.IntN(3))))
		}
		var want []api.CastleChange
		for i, own := range heightsOf(b) {
			for height := range 41 {
				x := change(i, height)
				shares, _ := sharesOf(withChange(b, x), cups)
				if height != own && agrees(counts, shares) {
					want = append(want, x)
				}
			}
		}
		y, e := castle.Lowered(b, cups, counts)
		if !slices.Equal(y, want) || e != api.OK {
			t.Error(b, cups, counts, y, e, want)
		}
		if own := b.Nozzles[truth.Nozzle].Height; truth.Height != own && !slices.Contains(y, truth) {
			t.Error(b, cups, counts, y, truth)
		}
	}
}

// agrees reports whether each share lies within its count.
func agrees(counts []api.Span, shares []int) bool {
	for i, n := range shares {
		if n < counts[i].Low || n > counts[i].High {
			return false
		}
	}
	return true
}
