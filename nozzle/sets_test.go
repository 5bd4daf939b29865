package nozzle_test

import (
	"math/rand/v2"
	"slices"
	"testing"

	"quinaria/api"
	"quinaria/nozzle"
)

// P3.2: the chapter's examples, units that few nozzles count or none, sets with as many nozzles, and errors.
func TestSet(t *testing.T) {
	odd := table(0, row(2, 1, 1), row(3, 1, 1), row(4, 1, 1), row(5, 1, 1))
	for i, x := range []struct {
		t     api.NozzleTable
		in    api.NozzleSystem
		units int
		want  []int
		e     api.Errno
	}{
		{tableT(), api.NozzleFirst, 25, list(0, 2), api.OK},
		{tableT(), api.NozzleFirst, 7, nil, api.ErrNone},
		{tableT(), api.NozzleFirst, 20, list(2), api.OK},
		{tableT(), api.NozzleSecond, 16, list(1, 1), api.OK},
		{tableT(), api.NozzleSecond, 12, list(0, 1), api.OK},
		{tableT(), api.NozzleFirst, 0, nil, api.OK},
		{tableT(), api.NozzleSecond, 0, nil, api.OK},
		{tableT(), api.NozzleFirst, 120, list(2, 2, 2, 2, 2, 2), api.OK},
		{tableT(), api.NozzleFirst, 110, list(1, 2, 2, 2, 2, 2), api.OK},
		{tableT(), api.NozzleFirst, 115, nil, api.ErrNone},
		{tableT(), api.NozzleFirst, 121, nil, api.ErrNone},
		{tableT(), api.NozzleFirst, 360, nil, api.ErrNone},
		// 7 is 2 and 5, and 3 and 4; 8 is 3 and 5, and 4 and 4.
		{odd, api.NozzleFirst, 7, list(0, 3), api.OK},
		{odd, api.NozzleFirst, 8, list(1, 3), api.OK},
		{odd, api.NozzleFirst, 1, nil, api.ErrNone},
		{odd, api.NozzleSecond, 6, list(0, 0, 0, 0, 0, 0), api.OK},
		{odd, api.NozzleSecond, 7, nil, api.ErrNone},
		{fullTable(), api.NozzleFirst, 60, list(0), api.OK},
		{fullTable(), api.NozzleSecond, 360, slices.Repeat(list(0), 6), api.OK},
		{tableT(), api.NozzleFirst, -1, nil, api.ErrArg},
		{tableT(), api.NozzleFirst, 361, nil, api.ErrArg},
		{tableT(), api.NozzleFirst, huge, nil, api.ErrArg},
		{tableT(), api.NozzleFirst, -huge - 1, nil, api.ErrArg},
	} {
		if y, e := nozzle.Set(x.t, x.in, x.units); !slices.Equal(y, x.want) || e != x.e {
			t.Error(i, y, e)
		}
	}
	for i, x := range wrongTables() {
		if y, e := nozzle.Set(x, api.NozzleFirst, 0); len(y) > 0 || e != api.ErrArg {
			t.Error(i, y, e)
		}
	}
	for i, in := range wrongSystems() {
		if y, e := nozzle.Set(tableT(), in, 5); len(y) > 0 || e != api.ErrArg {
			t.Error(i, y, e)
		}
	}
}

// P3.2: the chapter's example, cups that nothing or all sets are less than, sets that give as much, and errors.
func TestFill(t *testing.T) {
	for i, x := range []struct {
		t          api.NozzleTable
		cups, left int
		want       []int
		e          api.Errno
	}{
		{tableT(), 57, 2, list(0, 2), api.OK},
		{tableT(), 0, 0, nil, api.OK},
		{tableT(), 9, 9, nil, api.OK},
		{tableT(), 10, 0, list(0), api.OK},
		{tableT(), 20, 0, list(1), api.OK},
		{tableT(), 40, 0, list(1, 1), api.OK},
		{tableT(), 44, 4, list(1, 1), api.OK},
		{tableT(), 45, 0, list(2), api.OK},
		{tableT(), 270, 0, list(2, 2, 2, 2, 2, 2), api.OK},
		{tableT(), 269, 24, list(1, 2, 2, 2, 2, 2), api.OK},
		{tableT(), 10000, 9730, list(2, 2, 2, 2, 2, 2), api.OK},
		// 20 is 10 and 10, and 5 and 15: the first one comes before.
		{table(0, row(1, 1, 10), row(1, 1, 5), row(1, 1, 15)), 20, 0, list(0, 0), api.OK},
		{table(0, row(1, 1, 5), row(1, 1, 10), row(1, 1, 15)), 20, 0, list(0, 2), api.OK},
		{leastTable(), 5, 0, slices.Repeat(list(0), 5), api.OK},
		{leastTable(), 7, 1, slices.Repeat(list(0), 6), api.OK},
		{fullTable(), 10000, 4000, slices.Repeat(list(0), 6), api.OK},
		{fullTable(), 999, 999, nil, api.OK},
		{tableT(), -1, 0, nil, api.ErrArg},
		{tableT(), 10001, 0, nil, api.ErrArg},
		{tableT(), huge, 0, nil, api.ErrArg},
		{tableT(), -huge - 1, 0, nil, api.ErrArg},
	} {
		if y, left, e := nozzle.Fill(x.t, x.cups); !slices.Equal(y, x.want) || left != x.left || e != x.e {
			t.Error(i, y, left, e)
		}
	}
	for i, x := range wrongTables() {
		if y, left, e := nozzle.Fill(x, 57); len(y) > 0 || left != 0 || e != api.ErrArg {
			t.Error(i, y, left, e)
		}
	}
}

// P3.2: the chapter's examples, units that few sets count or none, and errors.
func TestTurn(t *testing.T) {
	wide := table(0, row(1, 60, 1), row(60, 1, 1))
	for i, x := range []struct {
		t     api.NozzleTable
		in    api.NozzleSystem
		units int
		want  api.Span
		e     api.Errno
	}{
		{tableT(), api.NozzleFirst, 20, span(15, 16), api.OK},
		{tableT(), api.NozzleSecond, 16, span(20, 20), api.OK},
		{tableT(), api.NozzleFirst, 25, span(19, 20), api.OK},
		{tableT(), api.NozzleFirst, 60, span(45, 48), api.OK},
		{tableT(), api.NozzleFirst, 120, span(90, 90), api.OK},
		{tableT(), api.NozzleFirst, 0, span(0, 0), api.OK},
		{tableT(), api.NozzleSecond, 0, span(0, 0), api.OK},
		{tableT(), api.NozzleFirst, 7, span(0, 0), api.ErrNone},
		{tableT(), api.NozzleSecond, 360, span(0, 0), api.ErrNone},
		{wide, api.NozzleFirst, 6, span(360, 360), api.OK},
		{wide, api.NozzleSecond, 6, span(360, 360), api.OK},
		{wide, api.NozzleFirst, 65, span(301, 301), api.OK},
		{halfFair(), api.NozzleSecond, 4, span(3, 8), api.OK},
		{tableT(), api.NozzleFirst, -1, span(0, 0), api.ErrArg},
		{tableT(), api.NozzleSecond, 361, span(0, 0), api.ErrArg},
		{tableT(), api.NozzleSecond, huge, span(0, 0), api.ErrArg},
		{tableT(), api.NozzleFirst, -huge - 1, span(0, 0), api.ErrArg},
	} {
		if y, e := nozzle.Turn(x.t, x.in, x.units); y != x.want || e != x.e {
			t.Error(i, y, e)
		}
	}
	for i, x := range wrongTables() {
		if y, e := nozzle.Turn(x, api.NozzleFirst, 5); y != span(0, 0) || e != api.ErrArg {
			t.Error(i, y, e)
		}
	}
	for i, in := range wrongSystems() {
		if y, e := nozzle.Turn(tableT(), in, 5); y != span(0, 0) || e != api.ErrArg {
			t.Error(i, y, e)
		}
	}
}

// P3.2: for all units, no set counts as many with fewer nozzles, and the other system counts each within the bounds, both of which are reached.
func TestAllUnits(t *testing.T) {
	r := rand.New(rand.NewPCG(3, 3))
	for range 40 {
		x := someTable(r, 5)
		for _, in := range bothSystems() {
			byUnits := map[int][][]int{}
			for _, set := range allSets(x) {
				units := unitsOf(x, in, set)
				byUnits[units] = append(byUnits[units], set)
			}
			for units := range 361 {
				want, turned, f := []int(nil), span(0, 0), api.ErrNone
				if sets := byUnits[units]; len(sets) > 0 {
					want, f = earliest(sets, func([]int) int { return 0 }), api.OK
					var other []int
					for _, set := range sets {
						other = append(other, unitsOf(x, 3-in, set))
					}
					turned = span(slices.Min(other), slices.Max(other))
				}
				if y, e := nozzle.Set(x, in, units); !slices.Equal(y, want) || e != f {
					t.Error(x, in, units, y, e, want)
				}
				if y, e := nozzle.Turn(x, in, units); y != turned || e != f {
					t.Error(x, in, units, y, e, turned)
				}
			}
		}
	}
}

// P3.2: no set gives more without giving too much, and none that gives as much comes before.
func TestNoSetGivesMore(t *testing.T) {
	r := rand.New(rand.NewPCG(3, 4))
	for range 300 {
		x := someTable(r, 5)
		cups := r.IntN([]int{100, 500}[r.IntN(2)])
		fitting := setsThat(x, func(set []int) bool { return cupsOf(x, set) <= cups })
		want := earliest(fitting, func(set []int) int { return cupsOf(x, set) })
		if y, left, e := nozzle.Fill(x, cups); !slices.Equal(y, want) || left != cups-cupsOf(x, want) || e != api.OK {
			t.Error(x, cups, y, left, e, want)
		}
	}
}
