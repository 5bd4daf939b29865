package castle_test

import (
	"math/rand/v2"
	"reflect"
	"slices"
	"testing"

	"quinaria/api"
	"quinaria/castle"
)

// given is the arguments of all functions.
type given struct {
	b       api.CastleBasin
	c       api.CastleChain
	x       api.CastleChange
	in      api.Span
	seen    api.Span
	claims  []int
	counts  []api.Span
	a, d, n int
}

// cloneOf returns a castle in memory of its own.
func cloneOf(b api.CastleBasin) api.CastleBasin {
	b.Table.Rows, b.Nozzles = slices.Clone(b.Table.Rows), slices.Clone(b.Nozzles)
	return b
}

// clone returns arguments in memory of their own.
func (x given) clone() given {
	x.b = cloneOf(x.b)
	x.c = chain(slices.Clone(x.c.Feeds), slices.Clone(x.c.Basins)...)
	for i, b := range x.c.Basins {
		x.c.Basins[i] = cloneOf(b)
	}
	x.claims, x.counts = slices.Clone(x.claims), slices.Clone(x.counts)
	return x
}

// answers returns what all functions return for some arguments.
func answers(x given) []any {
	out, outOver, e0 := castle.Out(x.b, x.a)
	shares, over, e1 := castle.Shares(x.b, x.n)
	level, e2 := castle.Level(x.b, x.in)
	bounds, overs, e3 := castle.Bounds(x.b, x.in)
	proved, e4 := castle.Proves(x.b, x.seen)
	gains, gain, e5 := castle.Gains(x.b, x.x, x.n)
	mends, n, e6 := castle.Mends(x.b, x.claims, x.n)
	lowered, e7 := castle.Lowered(x.b, x.n, x.counts)
	flows, flowOvers, e8 := castle.Flow(x.c, x.n)
	least, e9 := castle.Least(x.c, x.a, x.d, x.n)
	text, e10 := castle.Print(x.b)
	read, e11 := castle.Read(x.b.Table, text)
	return []any{
		castle.Check(x.b), out, outOver, e0, shares, over, e1, level, e2, bounds, overs, e3, proved, e4, gains, gain, e5, mends, n, e6,
		lowered, e7, castle.Chain(x.c), flows, flowOvers, e8, least, e9, text, e10, read, e11,
	}
}

// ours are some arguments with which all functions have results.
func ours() []given {
	every := func(n int) []api.Span { return slices.Repeat(spans(0, 10000), n) }
	return []given{
		{castleA(), chainC(), change(2, 10), span(30, 60), span(13, 14), list(8, 12, 9), every(3), 1, 0, 8},
		{castleB(), fullChain(), change(1, 9), span(0, 10000), span(0, 40), list(0, 0), every(2), 3, 1, 10},
		{fullCastle(), chain(nil, fullCastle()), change(5, 40), span(9999, 10000), span(40, 40), make([]int, 6), every(6), 0, 5, 1000},
		{leastCastle(), chain(feeds(0, -1), leastCastle(), leastCastle()), change(0, 40), span(0, 0), span(4, 4), list(0), every(1), 1, 0, 1},
	}
}

// P4.1 to P4.9, R5: every function answers, whatever the arguments are.
func TestAnyValue(t *testing.T) {
	values := []int{-huge - 1, -1, 0, 1, 2, 5, 6, 40, 41, 100, 101, 10000, 10001, huge - 1, huge}
	for i, x := range ours() {
		for _, a := range values {
			for _, d := range values {
				n := values[(a&7+d&7)%len(values)]
				x.a, x.d, x.n, x.x = a, d, n, change(a, d)
				x.in, x.seen = span(a, d), span(d, a)
				x.claims, x.counts = slices.Repeat(list(a), len(x.claims)), slices.Repeat(spans(a, d), len(x.counts))
				x.c = chain(feeds(a, d), castleA(), castleB())
				x.b = basin(tableT(), a, d, n, a, 0, d)
				answers(x)
			}
		}
		x = ours()[i]
		for _, b := range wrongCastles() {
			x.b = b
			answers(x)
		}
		x = ours()[i]
		for _, c := range wrongChains() {
			x.c = c
			answers(x)
		}
	}
	answers(given{})
}

// R4, R8: no argument is changed, no result shares memory with another one, and equal calls have equal results.
func TestNothingIsKept(t *testing.T) {
	for i, x := range ours() {
		before := x.clone()
		first := answers(x)
		again := answers(x.clone())
		if !reflect.DeepEqual(x, before) || !reflect.DeepEqual(first, again) {
			t.Error(i, x, first, again)
		}
		for _, y := range first {
			spoil(y)
		}
		if !reflect.DeepEqual(x, before) || !reflect.DeepEqual(again, answers(x)) {
			t.Error("results share memory", i, x, before)
		}
	}
}

// spoil overwrites the memory of a result.
func spoil(x any) {
	switch y := x.(type) {
	case []int:
		for i := range y {
			y[i] = -77
		}
	case [][]int:
		for _, z := range y {
			spoil(z)
		}
	case []api.Span:
		for i := range y {
			y[i] = span(-77, -77)
		}
	case []api.CastleChange:
		for i := range y {
			y[i] = change(-77, -77)
		}
	case api.CastleBasin:
		for i := range y.Table.Rows {
			y.Table.Rows[i] = row(-77, -77, -77)
		}
		for i := range y.Nozzles {
			y.Nozzles[i] = api.CastleNozzle{Row: -77, Height: -77}
		}
	}
}

// R4: the shares of the basins of a chain share no memory with each other.
func TestBasinsAreApart(t *testing.T) {
	shares, _, _ := castle.Flow(fullChain(), 10000)
	again, _, _ := castle.Flow(fullChain(), 10000)
	for k := range shares {
		spoil(append(shares[k], -77)[:len(shares[k])])
		if !slices.EqualFunc(shares[k+1:], again[k+1:], slices.Equal) {
			t.Error(k, shares, again)
		}
	}
}

// R3: nil and empty lists are the same.
func TestNilAndEmpty(t *testing.T) {
	for _, x := range ours() {
		x.claims, x.counts, x.b.Nozzles, x.c.Feeds = nil, nil, nil, nil
		y := x
		y.claims, y.counts, y.b.Nozzles, y.c.Feeds = []int{}, []api.Span{}, []api.CastleNozzle{}, []api.CastleFeed{}
		if !reflect.DeepEqual(answers(x), answers(y)) {
			t.Error(answers(x), answers(y))
		}
	}
	empty := given{c: api.CastleChain{Basins: []api.CastleBasin{}}, b: api.CastleBasin{Table: api.NozzleTable{Rows: []api.NozzleRow{}}}}
	if !reflect.DeepEqual(answers(empty), answers(given{})) {
		t.Error(answers(empty))
	}
}

// P4.10: bounds are never narrower if what comes in is known less.
func TestLessKnownIsNotNarrower(t *testing.T) {
	holds := func(wide, narrow api.Span) bool { return wide.Low <= narrow.Low && narrow.High <= wide.High }
	r := rand.New(rand.NewPCG(4, 11))
	for range 1000 {
		b := someCastle(r, 6)
		in := someSpan(r, b)
		less := span(max(0, in.Low-r.IntN(60)), min(10000, in.High+r.IntN(60)))
		level, e := castle.Level(b, in)
		wide, f := castle.Level(b, less)
		if !holds(wide, level) || e != api.OK || f != api.OK {
			t.Error(b, in, less, level, wide, e, f)
		}
		bounds, over, e := castle.Bounds(b, in)
		wides, wideOver, f := castle.Bounds(b, less)
		if !holds(wideOver, over) || e != api.OK || f != api.OK {
			t.Error(b, in, less, over, wideOver, e, f)
		}
		for i := range bounds {
			if !holds(wides[i], bounds[i]) {
				t.Error(b, in, less, bounds, wides)
			}
		}
	}
}

// P4.10: lesser claims never need a greater change.
func TestLesserClaimsNeedNoMore(t *testing.T) {
	r := rand.New(rand.NewPCG(4, 12))
	for range 200 {
		b := someCastle(r, 4)
		cups := someCups(r, b)
		claims := someClaims(r, b, cups)
		lesser := slices.Clone(claims)
		for i := range lesser {
			lesser[i] = max(0, lesser[i]-r.IntN(5))
		}
		_, n, e := castle.Mends(b, claims, cups)
		_, m, f := castle.Mends(b, lesser, cups)
		if e == api.OK && (f != api.OK || m > n) {
			t.Error(b, cups, claims, lesser, n, m, f)
		}
	}
}
