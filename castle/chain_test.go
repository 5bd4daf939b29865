package castle_test

import (
	"math/rand/v2"
	"slices"
	"testing"

	"quinaria/api"
	"quinaria/castle"
)

// P4.8: chains that are as defined, at their limits too, and each way in which one is not.
func TestChain(t *testing.T) {
	a, b := castleA(), castleB()
	for i, x := range []api.CastleChain{
		chainC(), fullChain(), chain(nil, a), chain(feeds(0, -1), a, b), chain(feeds(0, 0, 0, 1), a, b, b), chain(feeds(0, -1, 1, -1), a, b, b),
		chain(feeds(0, 0, 1, 0, 2, 0), a, a, a, a), chain(feeds(0, 2, 0, -1, 0, 0), a, a, a, a), chain(feeds(0, 2, 1, 1, 0, 1), a, b, b, a),
	} {
		if e := castle.Chain(x); e != api.OK {
			t.Error(i, x, e)
		}
	}
	for i, x := range wrongChains() {
		if e := castle.Chain(x); e != api.ErrArg {
			t.Error(i, x, e)
		}
	}
}

// P4.8: the chapter's example, basins that are fed by weirs, and errors.
func TestFlow(t *testing.T) {
	a, b := castleA(), castleB()
	for i, x := range []struct {
		c      api.CastleChain
		cups   int
		shares [][]int
		overs  []int
	}{
		{chainC(), 30, lists(list(8, 13, 9), list(7, 2)), list(0, 0)},
		{chainC(), 0, lists(list(0, 0, 0), list(0, 0)), list(0, 0)},
		{chainC(), 10000, lists(list(10, 20, 45), list(16, 8)), list(9925, 21)},
		{chain(nil, a), 78, lists(list(10, 20, 45)), list(3)},
		{chain(feeds(0, -1), a, b), 78, lists(list(10, 20, 45), list(3, 0)), list(3, 0)},
		{chain(feeds(0, -1), a, b), 30, lists(list(8, 13, 9), list(0, 0)), list(0, 0)},
		{chain(feeds(0, -1, 1, -1), a, b, a), 113, lists(list(10, 20, 45), list(16, 8), list(6, 8, 0)), list(38, 14, 0)},
		{chain(feeds(0, 1, 0, 2), a, b, a), 78, lists(list(10, 20, 45), list(14, 6), list(10, 17, 18)), list(3, 0, 0)},
		{fullChain(), 10000, lists(slices.Repeat(list(1000), 6), list(10, 20, 45), list(200, 200, 200, 200, 200, 0), list(20, 10)), list(4000, 3925, 0, 170)},
	} {
		y, overs, e := castle.Flow(x.c, x.cups)
		if !slices.EqualFunc(y, x.shares, slices.Equal) || !slices.Equal(overs, x.overs) || e != api.OK {
			t.Error(i, y, overs, e)
		}
	}
	for i, x := range wrongChains() {
		if y, overs, e := castle.Flow(x, 30); len(y) > 0 || len(overs) > 0 || e != api.ErrArg {
			t.Error(i, y, overs, e)
		}
	}
	for _, cups := range wrongCups() {
		if y, overs, e := castle.Flow(chainC(), cups); len(y) > 0 || len(overs) > 0 || e != api.ErrArg {
			t.Error(cups, y, overs, e)
		}
	}
}

// flowOf returns what all basins of a chain get, as the chapter defines it.
func flowOf(c api.CastleChain, cups int) (shares [][]int, overs []int) {
	for k, b := range c.Basins {
		in := cups
		if k > 0 {
			x := c.Feeds[k-1]
			if x.Nozzle < 0 {
				in = overs[x.Basin]
			} else {
				in = shares[x.Basin][x.Nozzle]
			}
		}
		list, over := sharesOf(b, in)
		shares, overs = append(shares, list), append(overs, over)
	}
	return shares, overs
}

// P4.8: what goes out of a chain, but for what feeds its basins, is what comes in.
func TestChainsLoseNothing(t *testing.T) {
	r := rand.New(rand.NewPCG(4, 8))
	for range 600 {
		c := someChain(r)
		cups := someCups(r, c.Basins[0])
		want, wantOvers := flowOf(c, cups)
		y, overs, e := castle.Flow(c, cups)
		if !slices.EqualFunc(y, want, slices.Equal) || !slices.Equal(overs, wantOvers) || e != api.OK {
			t.Fatal(c, cups, y, overs, e, want, wantOvers)
		}
		out := 0
		for k, list := range y {
			out += overs[k]
			for _, n := range list {
				out += n
			}
		}
		for _, x := range c.Feeds {
			if x.Nozzle < 0 {
				out -= overs[x.Basin]
			} else {
				out -= y[x.Basin][x.Nozzle]
			}
		}
		if out != cups {
			t.Error(c, cups, y, overs)
		}
	}
}

// P4.8: the chapter's example, claims that need nothing, or everything, or that nothing meets, and errors in their order.
func TestLeast(t *testing.T) {
	a, b := castleA(), castleB()
	overs := chain(feeds(0, -1), a, b)
	for i, x := range []struct {
		c                    api.CastleChain
		basin, nozzle, claim int
		want                 int
		e                    api.Errno
	}{
		{chainC(), 1, 0, 8, 34, api.OK},
		{chainC(), 1, 0, 0, 0, api.OK},
		{chainC(), 1, 1, 10, 0, api.ErrNone},
		{chainC(), 1, 0, 16, 52, api.OK},
		{chainC(), 1, 0, 17, 0, api.ErrNone},
		{chainC(), 0, 0, 1, 1, api.OK},
		{chainC(), 0, 0, 10, 44, api.OK},
		{chainC(), 0, 0, 11, 0, api.ErrNone},
		{chainC(), 0, 2, 45, 75, api.OK},
		{chainC(), 0, 2, 10000, 0, api.ErrNone},
		{overs, 1, 0, 1, 76, api.OK},
		{overs, 1, 0, 20, 75 + 128, api.OK},
		{chain(nil, fullCastle()), 0, 5, 1000, 6400, api.OK},
		{chain(nil, fullCastle()), 0, 5, 1001, 0, api.ErrNone},
		{chain(nil, basin(tableOf(1000), 0, 100, 0, 35)), 0, 0, 1000, 4900, api.OK},
		{chain(nil, basin(tableOf(5), 0, 100, 0, 36)), 0, 0, 4, 3904, api.OK},
		{chain(nil, basin(tableOf(5), 0, 100, 0, 36)), 0, 0, 5, 0, api.ErrNone},
		{chain(feeds(0, -1), highCastle(), fullCastle()), 1, 5, 1000, 6400, api.OK},
		{chain(feeds(0, -1, 1, -1), highCastle(), fullCastle(), fullCastle()), 2, 5, 600, 9800, api.OK},
		{chain(feeds(0, -1, 1, -1), highCastle(), fullCastle(), fullCastle()), 2, 5, 601, 0, api.ErrNone},
		// All that can come in is just enough.
		{chain(feeds(0, -1, 1, -1), highCastle(), fullCastle(), fullCastle()), 2, 0, 700, 10000, api.OK},
		{chain(feeds(0, -1, 1, -1), highCastle(), fullCastle(), fullCastle()), 2, 0, 701, 0, api.ErrNone},
	} {
		if y, e := castle.Least(x.c, x.basin, x.nozzle, x.claim); y != x.want || e != x.e {
			t.Error(i, y, e)
		}
	}
	wrong := func(c api.CastleChain, basin, nozzle, claim int) {
		if y, e := castle.Least(c, basin, nozzle, claim); y != 0 || e != api.ErrArg {
			t.Error(c, basin, nozzle, claim, y, e)
		}
	}
	for _, c := range wrongChains() {
		wrong(c, 0, 0, 10000)
	}
	for _, n := range list(-1, 2, huge, -huge-1) {
		wrong(chainC(), n, 0, 10000)
		wrong(chainC(), 1, n, 10000)
	}
	wrong(chainC(), 0, 3, 1)
	for _, claim := range wrongCups() {
		wrong(chainC(), 1, 0, claim)
	}
}

// P4.8: with the least cups the nozzle gets its claim, with fewer it does not; with none if there are none.
func TestFewerAreNotEnough(t *testing.T) {
	r := rand.New(rand.NewPCG(4, 9))
	found := map[api.Errno]int{}
	for range 25 {
		c := someChain(r)
		var all [][][]int
		for cups := range 10001 {
			shares, _ := flowOf(c, cups)
			all = append(all, shares)
		}
		for range 20 {
			basin := r.IntN(len(c.Basins))
			nozzle := r.IntN(len(c.Basins[basin].Nozzles))
			claim := max(0, min(10000, all[r.IntN(10001)][basin][nozzle]-2+r.IntN(4)))
			least := slices.IndexFunc(all, func(shares [][]int) bool { return shares[basin][nozzle] >= claim })
			want, e := least, api.OK
			if least < 0 {
				want, e = 0, api.ErrNone
			}
			found[e]++
			if y, f := castle.Least(c, basin, nozzle, claim); y != want || f != e {
				t.Error(c, basin, nozzle, claim, y, f, want, e)
			}
		}
	}
	if found[api.OK] < 50 || found[api.ErrNone] < 20 {
		t.Error("too few of a kind", found)
	}
}
