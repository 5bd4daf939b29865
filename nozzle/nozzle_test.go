package nozzle_test

import (
	"math/rand/v2"
	"slices"
	"testing"

	"quinaria/api"
	"quinaria/nozzle"
)

// P3.1: Check takes all that is as defined, to its ends, and nothing else.
func TestCheck(t *testing.T) {
	for i, x := range []api.NozzleTable{
		tableT(), fullTable(), leastTable(), fairTable(), halfFair(),
		table(0, row(60, 1, 1)), table(100, row(1, 60, 1)), table(50, row(1, 1, 1000)), table(1, row(1, 2, 3), row(1, 2, 3)),
	} {
		if e := nozzle.Check(x); e != api.OK {
			t.Error(i, x, e)
		}
	}
	for i, x := range wrongTables() {
		if e := nozzle.Check(x); e != api.ErrArg {
			t.Error(i, x, e)
		}
	}
}

// P3.1: the chapter's examples, no nozzle, as many as there can be, and errors.
func TestGivesAndCounts(t *testing.T) {
	for i, x := range []struct {
		t                   api.NozzleTable
		set                 []int
		cups, first, second int
	}{
		{tableT(), list(0, 0, 1), 40, 20, 16},
		{tableT(), list(0, 2), 55, 25, 19},
		{tableT(), list(1), 20, 10, 8},
		{tableT(), list(2, 2, 2, 2, 2, 2), 270, 120, 90},
		{tableT(), list(0, 0, 1, 1, 2, 2), 150, 70, 54},
		{tableT(), nil, 0, 0, 0},
		{fullTable(), list(0, 11), 2000, 120, 120},
		{fullTable(), list(0, 1, 2, 9, 10, 11), 6000, 360, 360},
		{leastTable(), slices.Repeat(list(0), 6), 6, 6, 6},
	} {
		if y, e := nozzle.Gives(x.t, x.set); y != x.cups || e != api.OK {
			t.Error(i, y, e)
		}
		if y, e := nozzle.Counts(x.t, api.NozzleFirst, x.set); y != x.first || e != api.OK {
			t.Error(i, y, e)
		}
		if y, e := nozzle.Counts(x.t, api.NozzleSecond, x.set); y != x.second || e != api.OK {
			t.Error(i, y, e)
		}
	}
	for i, x := range wrongTables() {
		if y, e := nozzle.Gives(x, nil); y != 0 || e != api.ErrArg {
			t.Error(i, y, e)
		}
		if y, e := nozzle.Counts(x, api.NozzleFirst, nil); y != 0 || e != api.ErrArg {
			t.Error(i, y, e)
		}
	}
	for i, set := range wrongSets() {
		if y, e := nozzle.Gives(tableT(), set); y != 0 || e != api.ErrArg {
			t.Error(i, y, e)
		}
		if y, e := nozzle.Counts(tableT(), api.NozzleSecond, set); y != 0 || e != api.ErrArg {
			t.Error(i, y, e)
		}
	}
	for i, in := range wrongSystems() {
		if y, e := nozzle.Counts(tableT(), in, list(0)); y != 0 || e != api.ErrArg {
			t.Error(i, y, e)
		}
	}
}

// P3.1: each set gives and counts what its nozzles do.
func TestAllSets(t *testing.T) {
	r := rand.New(rand.NewPCG(3, 1))
	for range 20 {
		x := someTable(r, 5)
		for _, set := range allSets(x) {
			if y, e := nozzle.Gives(x, set); y != cupsOf(x, set) || e != api.OK {
				t.Error(x, set, y, e)
			}
			for _, in := range bothSystems() {
				if y, e := nozzle.Counts(x, in, set); y != unitsOf(x, in, set) || e != api.OK {
					t.Error(x, in, set, y, e)
				}
			}
		}
	}
}

// P3.2: the chapter's example, the ends of spans, spans without an end, and errors.
func TestSold(t *testing.T) {
	every := span(0, huge)
	for i, x := range []struct {
		t    api.NozzleTable
		f    api.NozzleFind
		want []int
		e    api.Errno
	}{
		{tableT(), find(span(5, 10), span(4, 7), span(0, 100)), list(0), api.OK},
		{tableT(), find(span(5, 10), span(4, 8), span(0, 100)), list(0, 1), api.OK},
		{tableT(), find(every, every, every), list(0, 1, 2), api.OK},
		{tableT(), find(span(5, 5), every, every), list(0), api.OK},
		{tableT(), find(span(6, 20), every, every), list(1, 2), api.OK},
		{tableT(), find(span(6, 19), every, every), list(1), api.OK},
		{tableT(), find(every, span(8, 15), every), list(1, 2), api.OK},
		{tableT(), find(every, span(9, 14), every), nil, api.OK},
		{tableT(), find(every, every, span(10, 44)), list(0, 1), api.OK},
		{tableT(), find(every, every, span(45, 45)), list(2), api.OK},
		{tableT(), find(span(0, 5), span(8, huge), every), nil, api.OK},
		{tableT(), find(span(0, 0), every, every), nil, api.OK},
		{tableT(), find(span(huge, huge), every, every), nil, api.OK},
		{tableT(), api.NozzleFind{}, nil, api.OK},
		{fullTable(), find(span(60, 60), span(60, 60), span(1000, 1000)), list(0, 1, 2, 3, 4, 5, 6, 7, 8, 9, 10, 11), api.OK},
		{tableT(), find(span(-1, 5), every, every), nil, api.ErrArg},
		{tableT(), find(every, span(-1, 5), every), nil, api.ErrArg},
		{tableT(), find(every, every, span(-1, 5)), nil, api.ErrArg},
		{tableT(), find(span(6, 5), every, every), nil, api.ErrArg},
		{tableT(), find(every, span(6, 5), every), nil, api.ErrArg},
		{tableT(), find(every, every, span(huge, -huge-1)), nil, api.ErrArg},
		{tableT(), find(every, every, span(-huge-1, huge)), nil, api.ErrArg},
	} {
		if y, e := nozzle.Sold(x.t, x.f); !slices.Equal(y, x.want) || e != x.e {
			t.Error(i, y, e)
		}
	}
	for i, x := range wrongTables() {
		if y, e := nozzle.Sold(x, find(every, every, every)); len(y) > 0 || e != api.ErrArg {
			t.Error(i, y, e)
		}
	}
}

// P3.2: a row is returned just if nothing that is known of the find excludes it.
func TestAllSold(t *testing.T) {
	r := rand.New(rand.NewPCG(3, 2))
	for range 300 {
		x := someTable(r, 12)
		it := x.Rows[r.IntN(len(x.Rows))]
		f := find(someSpan(r, it.First, 60), someSpan(r, it.Second, 60), someSpan(r, it.Gives, 1000))
		y, e := nozzle.Sold(x, f)
		if e != api.OK || !slices.IsSorted(y) {
			t.Error(x, f, y, e)
		}
		for n, z := range x.Rows {
			may := z.First >= f.First.Low && z.First <= f.First.High && z.Second >= f.Second.Low && z.Second <= f.Second.High &&
				z.Gives >= f.Gives.Low && z.Gives <= f.Gives.High
			if slices.Contains(y, n) != may {
				t.Error(x, f, y, n)
			}
		}
	}
}
