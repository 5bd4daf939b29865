package castle_test

import (
	"math/rand/v2"
	"slices"
	"testing"

	"quinaria/api"
	"quinaria/castle"
)

// P4.1: castles that are as defined, at their limits too, and each way in which one is not.
func TestCheck(t *testing.T) {
	right := append(ourCastles(), basin(tableT(), 40, 100, 2, 40, 0, 0), basin(tableT(), 0, 0, 2, 0))
	for i, x := range right {
		if e := castle.Check(x); e != api.OK {
			t.Error(i, x, e)
		}
	}
	for i, x := range wrongCastles() {
		if e := castle.Check(x); e != api.ErrArg {
			t.Error(i, x, e)
		}
	}
}

// P4.1: the chapter's examples, each digit above a nozzle, the least and the greatest heights, and errors.
func TestOut(t *testing.T) {
	for i, x := range []struct {
		b      api.CastleBasin
		height int
		want   []int
		over   int
		e      api.Errno
	}{
		{castleA(), 13, list(6, 12, 9), 0, api.OK},
		{castleA(), 22, list(10, 20, 45), 10, api.OK},
		{castleA(), 0, list(0, 0, 0), 0, api.OK},
		{castleA(), 10, list(0, 0, 0), 0, api.OK},
		{castleA(), 11, list(2, 4, 0), 0, api.OK},
		{castleA(), 15, list(10, 20, 27), 0, api.OK},
		{castleA(), 16, list(10, 20, 36), 0, api.OK},
		{castleA(), 20, list(10, 20, 45), 0, api.OK},
		{castleA(), 21, list(10, 20, 45), 5, api.OK},
		{castleA(), 40, list(10, 20, 45), 100, api.OK},
		{basin(tableOf(7, 4), 3, 2, 0, 1, 1, 1), 2, list(1, 0), 0, api.OK},
		{basin(tableOf(7, 4), 3, 2, 0, 1, 1, 1), 4, list(4, 2), 2, api.OK},
		{basin(tableOf(7, 4), 3, 2, 0, 1, 1, 1), 5, list(5, 3), 4, api.OK},
		{fullCastle(), 40, list(1000, 1000, 1000, 1000, 1000, 1000), 4000, api.OK},
		{fullCastle(), 1, list(200, 200, 200, 200, 200, 200), 100, api.OK},
		{highCastle(), 40, list(0, 0), 0, api.OK},
		{leastCastle(), 4, list(0), 0, api.OK},
		{leastCastle(), 5, list(1), 0, api.OK},
	} {
		if y, over, e := castle.Out(x.b, x.height); !slices.Equal(y, x.want) || over != x.over || e != x.e {
			t.Error(i, y, over, e)
		}
	}
	for i, x := range wrongCastles() {
		if y, over, e := castle.Out(x, 13); len(y) > 0 || over != 0 || e != api.ErrArg {
			t.Error(i, y, over, e)
		}
	}
	for _, height := range wrongHeights() {
		if y, over, e := castle.Out(castleA(), height); len(y) > 0 || over != 0 || e != api.ErrArg {
			t.Error(height, y, over, e)
		}
	}
}

// P4.1: at each height each nozzle gives what it should, and never less than at the one before.
func TestAllOut(t *testing.T) {
	r := rand.New(rand.NewPCG(4, 1))
	for range 200 {
		b := someCastle(r, 6)
		before, overBefore := make([]int, len(b.Nozzles)), 0
		for height := range 41 {
			y, over, e := castle.Out(b, height)
			if e != api.OK || len(y) != len(b.Nozzles) || over != overOf(b, height) || over < overBefore {
				t.Fatal(b, height, y, over, e)
			}
			for i, n := range y {
				if n != givesOf(b, i, height) || n < before[i] {
					t.Error(b, height, y, before)
				}
			}
			before, overBefore = y, over
		}
	}
}

// P4.2: the chapter's examples, who gets the rest, a rest over the weir and over the rim, and errors.
func TestShares(t *testing.T) {
	for i, x := range []struct {
		b    api.CastleBasin
		cups int
		want []int
		over int
		e    api.Errno
	}{
		{castleA(), 30, list(8, 13, 9), 0, api.OK},
		{castleA(), 78, list(10, 20, 45), 3, api.OK},
		{castleA(), 0, list(0, 0, 0), 0, api.OK},
		{castleA(), 1, list(1, 0, 0), 0, api.OK},
		{castleA(), 3, list(2, 1, 0), 0, api.OK},
		{castleA(), 27, list(6, 12, 9), 0, api.OK},
		{castleA(), 41, list(8, 16, 17), 0, api.OK},
		{castleA(), 42, list(8, 16, 18), 0, api.OK},
		{castleA(), 75, list(10, 20, 45), 0, api.OK},
		{castleA(), 79, list(10, 20, 45), 4, api.OK},
		{castleA(), 80, list(10, 20, 45), 5, api.OK},
		{castleA(), 175, list(10, 20, 45), 100, api.OK},
		{castleA(), 10000, list(10, 20, 45), 9925, api.OK},
		// The rest goes to nozzles first, and over the weir only then.
		{castleB(), 17, list(12, 5), 0, api.OK},
		{castleB(), 18, list(12, 6), 0, api.OK},
		{castleB(), 23, list(16, 7), 0, api.OK},
		{castleB(), 24, list(16, 8), 0, api.OK},
		{castleB(), 25, list(16, 8), 1, api.OK},
		{castleB(), 123, list(16, 8), 99, api.OK},
		{castleB(), 124, list(16, 8), 100, api.OK},
		{castleB(), 125, list(17, 8), 100, api.OK},
		// At the rim no nozzle gets of the rest.
		{highCastle(), 10000, list(0, 0), 10000, api.OK},
		{basin(tableOf(10), 40, 100, 0, 39), 1, list(1), 0, api.OK},
		{basin(tableOf(10), 40, 100, 0, 39), 2, list(2), 0, api.OK},
		{basin(tableOf(10), 40, 100, 0, 39), 3, list(2), 1, api.OK},
		{fullCastle(), 10000, list(1000, 1000, 1000, 1000, 1000, 1000), 4000, api.OK},
		{fullCastle(), 9999, list(1000, 1000, 1000, 1000, 1000, 1000), 3999, api.OK},
		{fullCastle(), 650, list(200, 200, 200, 50, 0, 0), 0, api.OK},
		{fullCastle(), 1250, list(200, 200, 200, 200, 200, 200), 50, api.OK},
		{fullCastle(), 1301, list(201, 200, 200, 200, 200, 200), 100, api.OK},
		// A nozzle gives nothing more at the next height, so that the rest is the next one's.
		{basin(tableOf(1, 5), 40, 0, 0, 0, 1, 0), 1, list(0, 1), 0, api.OK},
		{basin(tableOf(1, 5), 40, 0, 0, 0, 1, 0), 5, list(1, 4), 0, api.OK},
	} {
		if y, over, e := castle.Shares(x.b, x.cups); !slices.Equal(y, x.want) || over != x.over || e != x.e {
			t.Error(i, y, over, e)
		}
	}
	for i, x := range wrongCastles() {
		if y, over, e := castle.Shares(x, 30); len(y) > 0 || over != 0 || e != api.ErrArg {
			t.Error(i, y, over, e)
		}
	}
	for _, cups := range wrongCups() {
		if y, over, e := castle.Shares(castleA(), cups); len(y) > 0 || over != 0 || e != api.ErrArg {
			t.Error(cups, y, over, e)
		}
	}
}

// P4.2, P0.4: all shares are as defined, and together with what goes over the weir what comes in.
func TestAllShares(t *testing.T) {
	r := rand.New(rand.NewPCG(4, 2))
	for range 3000 {
		b := someCastle(r, 6)
		cups := someCups(r, b)
		y, over, e := castle.Shares(b, cups)
		if want, wantOver := sharesOf(b, cups); !slices.Equal(y, want) || over != wantOver || e != api.OK {
			t.Error(b, cups, y, over, e, want, wantOver)
		}
		total := over
		for _, n := range y {
			total += n
		}
		if total != cups || over < 0 || slices.Min(y) < 0 {
			t.Error(b, cups, y, over)
		}
	}
}

// P4.3: the chapter's examples, spans of one number, of all numbers, and errors.
func TestLevelAndBounds(t *testing.T) {
	for i, x := range []struct {
		b      api.CastleBasin
		in     api.Span
		level  api.Span
		shares []api.Span
		over   api.Span
	}{
		{castleA(), span(30, 60), span(13, 15), spans(8, 10, 13, 20, 9, 30), span(0, 0)},
		{castleA(), span(30, 30), span(13, 13), spans(8, 8, 13, 13, 9, 9), span(0, 0)},
		{castleA(), span(0, 10000), span(10, 40), spans(0, 10, 0, 20, 0, 45), span(0, 9925)},
		{castleA(), span(26, 27), span(12, 13), spans(6, 6, 12, 12, 8, 9), span(0, 0)},
		{castleA(), span(74, 80), span(16, 21), spans(10, 10, 20, 20, 44, 45), span(0, 5)},
		{castleA(), span(174, 175), span(39, 40), spans(10, 10, 20, 20, 45, 45), span(99, 100)},
		{castleB(), span(0, 0), span(5, 5), spans(0, 0, 0, 0), span(0, 0)},
		{castleB(), span(23, 25), span(8, 8), spans(16, 16, 7, 8), span(0, 1)},
		{highCastle(), span(0, 10000), span(40, 40), spans(0, 0, 0, 0), span(0, 10000)},
		{fullCastle(), span(9999, 10000), span(39, 40), slices.Repeat(spans(1000, 1000), 6), span(3999, 4000)},
		{leastCastle(), span(0, 1), span(4, 40), spans(0, 1), span(0, 0)},
	} {
		if y, e := castle.Level(x.b, x.in); y != x.level || e != api.OK {
			t.Error(i, y, e)
		}
		if y, over, e := castle.Bounds(x.b, x.in); !slices.Equal(y, x.shares) || over != x.over || e != api.OK {
			t.Error(i, y, over, e)
		}
	}
	wrong := func(b api.CastleBasin, in api.Span) {
		if y, e := castle.Level(b, in); y != span(0, 0) || e != api.ErrArg {
			t.Error(b, in, y, e)
		}
		if y, over, e := castle.Bounds(b, in); len(y) > 0 || over != span(0, 0) || e != api.ErrArg {
			t.Error(b, in, y, over, e)
		}
	}
	for _, x := range wrongCastles() {
		wrong(x, span(30, 60))
	}
	for _, in := range wrongSpans(10000) {
		wrong(castleA(), in)
	}
}

// P4.3: whatever comes in, levels and shares lie within the bounds, and both ends are reached.
func TestAllBounds(t *testing.T) {
	r := rand.New(rand.NewPCG(4, 3))
	for range 150 {
		b := someCastle(r, 6)
		in := someSpan(r, b)
		in.High = min(in.High, in.Low+r.IntN(400))
		level := span(99, -1)
		over := span(99999, -1)
		shares := slices.Repeat([]api.Span{over}, len(b.Nozzles))
		for cups := in.Low; cups <= in.High; cups++ {
			level = wider(level, levelOf(b, cups))
			list, n := sharesOf(b, cups)
			over = wider(over, n)
			for i, n := range list {
				shares[i] = wider(shares[i], n)
			}
		}
		if y, e := castle.Level(b, in); y != level || e != api.OK {
			t.Error(b, in, y, e, level)
		}
		if y, z, e := castle.Bounds(b, in); !slices.Equal(y, shares) || z != over || e != api.OK {
			t.Error(b, in, y, z, e, shares, over)
		}
	}
}

// wider returns the least span that has another one, and a number.
func wider(x api.Span, n int) api.Span { return span(min(x.Low, n), max(x.High, n)) }

// P4.4: the chapter's examples, the least and the greatest heights, heights that no level is, and errors in their order.
func TestProves(t *testing.T) {
	for i, x := range []struct {
		b    api.CastleBasin
		seen api.Span
		want api.Span
		e    api.Errno
	}{
		{castleA(), span(13, 14), span(27, 56), api.OK},
		{castleA(), span(20, 20), span(75, 79), api.OK},
		{castleA(), span(18, 18), span(0, 0), api.ErrRule},
		{castleA(), span(17, 19), span(0, 0), api.ErrRule},
		{castleA(), span(17, 20), span(75, 79), api.OK},
		{castleA(), span(16, 19), span(66, 74), api.OK},
		{castleA(), span(0, 9), span(0, 0), api.ErrRule},
		{castleA(), span(0, 10), span(0, 5), api.OK},
		{castleA(), span(10, 10), span(0, 5), api.OK},
		{castleA(), span(0, 40), span(0, 10000), api.OK},
		{castleA(), span(40, 40), span(175, 10000), api.OK},
		{castleA(), span(39, 39), span(170, 174), api.OK},
		{castleA(), span(39, 40), span(170, 10000), api.OK},
		{castleB(), span(5, 5), span(0, 5), api.OK},
		{highCastle(), span(0, 39), span(0, 0), api.ErrRule},
		{highCastle(), span(40, 40), span(0, 10000), api.OK},
		{fullCastle(), span(40, 40), span(10000, 10000), api.OK},
		{fullCastle(), span(0, 0), span(0, 1299), api.OK},
		{leastCastle(), span(5, 40), span(1, 10000), api.OK},
		{leastCastle(), span(3, 3), span(0, 0), api.ErrRule},
	} {
		if y, e := castle.Proves(x.b, x.seen); y != x.want || e != x.e {
			t.Error(i, y, e)
		}
	}
	for i, x := range wrongCastles() {
		if y, e := castle.Proves(x, span(18, 18)); y != span(0, 0) || e != api.ErrArg {
			t.Error(i, y, e)
		}
	}
	for i, seen := range wrongSpans(40) {
		if y, e := castle.Proves(castleA(), seen); y != span(0, 0) || e != api.ErrArg {
			t.Error(i, y, e)
		}
	}
}

// P4.4: of all that can come in, just what agrees with a reading lies within the bounds.
func TestAllProves(t *testing.T) {
	r := rand.New(rand.NewPCG(4, 4))
	for range 60 {
		b := someCastle(r, 6)
		in := map[int]api.Span{}
		for cups := range 10001 {
			level := levelOf(b, cups)
			if x, some := in[level]; some {
				in[level] = wider(x, cups)
			} else {
				in[level] = span(cups, cups)
			}
		}
		for range 40 {
			low := r.IntN(41)
			seen := span(low, min(40, low+r.IntN(5)))
			want, e := span(99999, -1), api.ErrRule
			for height := seen.Low; height <= seen.High; height++ {
				if x, some := in[height]; some {
					want, e = wider(wider(want, x.Low), x.High), api.OK
				}
			}
			if e != api.OK {
				want = span(0, 0)
			}
			if y, f := castle.Proves(b, seen); y != want || f != e {
				t.Error(b, seen, y, f, want, e)
			}
		}
	}
}
