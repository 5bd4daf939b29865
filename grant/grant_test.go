package grant_test

import (
	"math/rand/v2"
	"slices"
	"testing"

	"quinaria/api"
	"quinaria/grant"
)

// P6.1: registers that are as defined, at all limits, and such as are not in one way.
func TestCheck(t *testing.T) {
	right := append(ourBooks(), fullBook(), bookOf(list(3, 3, 3, 3, 3, 3), join(0, 18, 18), join(0, 0, 0), divide(0, 12, 360, 3), renew(0, 12, 0)),
		bookOf(nil, give(36500, 3, second, 360), attach(36500, 18, first, 1), sell(36500, 18, 0), die(36500, 3, 3), ask(36500, 0, first, 360)),
		bookOf(nil, sell(0, 0, 0), join(0, 0, 0), renew(0, 0, 0), die(0, 0, 0)))
	for _, x := range unrightBooks() {
		right = append(right, x.b)
	}
	for i, b := range right {
		if e := grant.Check(b); e != api.OK {
			t.Error(i, e)
		}
	}
	for i, b := range wrongBooks() {
		if e := grant.Check(b); e != api.ErrArg {
			t.Error(i, b, e)
		}
		if y, e := grant.Wrong(b); y != 0 || e != api.ErrArg {
			t.Error(i, b, y, e)
		}
	}
}

// P6.1: the chapter's examples, and registers that are right, or are not.
func TestWrong(t *testing.T) {
	for i, b := range ourBooks() {
		if y, e := grant.Wrong(b); y != 0 || e != api.ErrNone {
			t.Error(i, y, e)
		}
	}
	for i, x := range unrightBooks() {
		if y, e := grant.Wrong(x.b); y != x.wrong || e != api.OK {
			t.Error(i, y, e)
		}
	}
	if y, e := grant.Wrong(with(bookH(), renew(130, 0, 3))); y != 0 || e != api.ErrNone {
		t.Error(y, e)
	}
}

// goes reports whether the last event of a register goes, and all others do.
func goes(t *testing.T, b api.GrantBook) bool {
	y, e := grant.Wrong(b)
	if e == api.OK && y != len(b.Events)-1 {
		t.Error("an earlier one does not go", b, y)
	}
	return e == api.ErrNone
}

// P6.1: what an event needs so that it goes, kind by kind.
func TestGoes(t *testing.T) {
	two := bookOf(list(0, 1, 0), give(0, 0, first, 20), attach(0, 1, first, 10))
	dead := with(two, die(10, 0, 3))
	waits := with(two, ask(1, 2, first, 25))
	for i, x := range []struct {
		b    api.GrantBook
		x    api.GrantEvent
		goes bool
	}{
		{two, give(1, 2, first, 15), true}, {two, give(1, 2, first, 20), false}, {two, give(1, 2, first, 7), false}, {two, give(1, 2, first, 115), false}, {two, give(1, 2, second, 5), false},
		{two, give(1, 2, second, 12), true}, {two, give(0, 2, first, 15), true}, {with(two, give(1, 2, first, 15)), give(2, 2, first, 5), false}, {waits, give(2, 2, first, 5), false},
		{dead, give(10, 0, first, 5), false}, {dead, give(10, 1, first, 15), true}, {dead, give(10, 1, first, 20), false}, {dead, give(40, 1, first, 20), false}, {dead, give(41, 1, first, 20), true},
		{two, attach(1, 0, first, 15), true}, {two, attach(1, 0, first, 20), false}, {two, attach(1, 3, first, 5), false}, {two, attach(1, 18, first, 5), false}, {two, attach(1, 0, first, 7), false},
		{waits, attach(1, 0, first, 5), false}, {dead, attach(10, 0, first, 5), true}, {with(two, join(1, 0, 2)), attach(2, 2, first, 5), false}, {with(two, join(1, 0, 2)), attach(2, 0, first, 5), true},
		{two, die(1, 0, 3), true}, {two, die(1, 2, 3), true}, {two, die(1, 2, 2), false}, {dead, die(10, 0, 1), false}, {dead, die(10, 1, 0), false}, {dead, die(10, 3, 1), true}, {waits, die(1, 2, 1), true},
		{two, sell(1, 0, 1), true}, {two, sell(1, 0, 0), false}, {two, sell(1, 3, 0), false}, {two, sell(1, 18, 0), false}, {dead, sell(10, 1, 0), false}, {dead, sell(10, 0, 3), false}, {dead, sell(10, 0, 1), true},
		{with(two, join(1, 0, 2)), sell(1, 2, 1), false}, {with(two, join(1, 0, 2)), sell(1, 0, 1), true}, {with(two, sell(1, 0, 2)), sell(1, 0, 0), true},
		{two, divide(1, 1, 5, 2), true}, {two, divide(1, 1, 5, 1), true}, {two, divide(1, 1, 10, 2), false}, {two, divide(1, 1, 11, 2), false}, {two, divide(1, 1, 4, 2), false}, {two, divide(1, 1, 9, 2), false},
		{two, divide(1, 0, 5, 2), false}, {two, divide(1, 2, 5, 2), false}, {two, divide(1, 12, 5, 2), false}, {dead, divide(10, 1, 5, 0), false}, {dead, divide(10, 0, 5, 1), false}, {waits, divide(1, 1, 5, 2), true},
		{with(two, join(1, 0, 2), divide(1, 1, 5, 0)), divide(1, 2, 5, 2), false}, {with(two, divide(1, 1, 5, 2)), attach(1, 3, first, 15), true},
		{two, join(1, 0, 2), true}, {two, join(1, 2, 0), true}, {two, join(1, 0, 1), false}, {two, join(1, 1, 1), false}, {two, join(1, 0, 3), false}, {two, join(1, 3, 0), false}, {two, join(1, 18, 18), false},
		{with(two, join(1, 0, 2)), join(1, 0, 2), false}, {with(two, join(1, 0, 2)), join(1, 2, 0), false}, {with(two, join(1, 0, 2)), join(1, 2, 2), false}, {with(two, sell(1, 1, 0)), join(1, 1, 0), true},
		{bookOf(list(0, 0, 0, 0), join(1, 0, 2), join(1, 1, 3)), join(1, 2, 3), false}, {dead, join(10, 0, 2), true},
		{dead, renew(10, 0, 3), true}, {dead, renew(40, 0, 3), true}, {dead, renew(41, 0, 3), false}, {dead, renew(10, 0, 1), false}, {dead, renew(10, 0, 0), false}, {dead, renew(10, 1, 3), false}, {dead, renew(10, 2, 3), false},
		{dead, renew(10, 12, 3), false}, {two, renew(1, 0, 0), false}, {two, renew(1, 1, 1), false}, {with(dead, renew(10, 0, 3)), renew(10, 0, 3), false}, {with(dead, die(11, 3, 1)), renew(11, 0, 1), false},
		{with(dead, renew(20, 0, 3), die(45, 3, 1)), renew(75, 0, 1), true}, {with(dead, renew(20, 0, 3), die(45, 3, 1)), renew(76, 0, 1), false}, {with(dead, renew(20, 0, 3)), die(45, 3, 0), false},
		{two, ask(1, 0, first, 5), true}, {two, ask(1, 0, first, 40), true}, {two, ask(1, 0, first, 7), false}, {two, ask(1, 0, first, 360), false}, {dead, ask(10, 0, first, 5), false}, {waits, ask(1, 2, second, 90), true},
	} {
		if y := goes(t, with(x.b, x.x)); y != x.goes {
			t.Error(i, x.x, y)
		}
	}
}

// P6.1: both parts of a grant that is divided can take more than the whole did, by what is free, also while somebody waits.
func TestDivideTakesMore(t *testing.T) {
	for supply, right := range map[int]bool{39: false, 40: true, 41: true} {
		b := api.GrantBook{Table: unfair(), Supply: supply, Persons: 1, Owners: list(0), Events: events(attach(0, 0, first, 10))}
		if goes(t, with(b, divide(0, 0, 5, 0))) != right || goes(t, with(b, ask(0, 0, first, 60), divide(0, 0, 5, 0))) != right {
			t.Error(supply)
		}
	}
}

// P6.1: both what is divided off and what is left must have water: 115 units are no set of at most six nozzles.
func TestDivideLeavesWater(t *testing.T) {
	b := changed(bookOf(list(0), attach(0, 0, first, 120)), func(b *api.GrantBook) { b.Supply = 1000 })
	for units, right := range map[int]bool{5: false, 115: false, 10: true, 110: true, 60: true, 120: false, 125: false, 1: false} {
		if goes(t, with(b, divide(0, 0, units, 0))) != right {
			t.Error(units)
		}
	}
}

// P6.1: Wrong is as in the office; events before the first one that does not go are a register that is right.
func TestAllWrong(t *testing.T) {
	r := rand.New(rand.NewPCG(6, 1))
	found := map[api.GrantKind]int{}
	for range 1500 {
		b := someBook(r, 12, 1)
		_, wrong := follow(b, 0)
		want, e := wrong, api.OK
		if wrong < 0 {
			want, e = 0, api.ErrNone
		}
		y, f := grant.Wrong(b)
		if y != want || f != e {
			t.Error(b, y, f, want, e)
		}
		if f != api.OK {
			continue
		}
		found[b.Events[wrong].Kind]++
		b.Events = b.Events[:wrong]
		if y, e := grant.Wrong(b); y != 0 || e != api.ErrNone {
			t.Error(b, y, e)
		}
	}
	for k := api.GrantGive; k <= api.GrantAsk; k++ {
		if found[k] < 20 {
			t.Error("too few of a kind", k, found)
		}
	}
}

// P6.2: the chapter's examples, and what comes of each kind of events.
func TestStates(t *testing.T) {
	g, h := bookG(), bookH()
	own := state(stands, 0, -1, first, 20)
	line := with(h, renew(130, 0, 3), die(140, 3, 2))
	for i, x := range []struct {
		b    api.GrantBook
		day  int
		want []api.GrantState
	}{
		{g, 0, nil}, {g, 9, nil}, {g, 10, states(own)}, {g, 20, states(own, state(stands, 0, 0, first, 10))}, {g, 99, states(own, state(stands, 0, 0, first, 10))},
		{g, 100, states(state(open, 3, -1, first, 20), state(stands, 3, 0, first, 10))}, {g, 130, states(state(open, 3, -1, first, 20), state(stands, 3, 0, first, 10))},
		{g, 131, states(state(ended, -1, -1, first, 20), state(stands, 3, 0, first, 10), state(stands, 2, -1, first, 25))},
		{g, 200, states(state(ended, -1, -1, first, 20), state(stands, 1, 0, first, 10), state(stands, 2, -1, first, 25))},
		{g, 300, states(state(ended, -1, -1, first, 20), state(stands, 1, 0, first, 5), state(stands, 2, -1, first, 25), state(stands, 2, 2, first, 5))},
		{g, 36500, states(state(ended, -1, -1, first, 20), state(stands, 1, 0, first, 5), state(stands, 2, -1, first, 25), state(stands, 2, 2, first, 5))},
		{line, 129, states(state(open, 3, -1, first, 20), state(stands, 3, 0, first, 10))}, {line, 139, states(state(stands, 3, -1, first, 20), state(stands, 3, 0, first, 10))},
		{line, 170, states(state(open, 2, -1, first, 20), state(stands, 2, 0, first, 10))},
		{line, 171, states(state(ended, -1, -1, first, 20), state(stands, 2, 0, first, 10), state(stands, 2, -1, first, 25))},
		{with(h, die(120, 3, 2)), 120, states(state(ended, -1, -1, first, 20), state(stands, 2, 0, first, 10), state(stands, 2, -1, first, 25))},
		{with(g, die(400, 1, 2)), 400, states(state(ended, -1, -1, first, 20), state(stands, 2, 0, first, 5), state(stands, 2, -1, first, 25), state(stands, 2, 2, first, 5))},
		{bookOf(list(1, 1), attach(5, 1, second, 8), join(5, 0, 1)), 5, states(state(stands, 1, 0, second, 8))},
		{bookOf(nil), 36500, nil}, {bookOf(nil, give(36500, 2, second, 4)), 36499, nil}, {bookOf(nil, give(36500, 2, second, 4)), 36500, states(state(stands, 2, -1, second, 4))},
	} {
		if y, e := grant.States(x.b, x.day); !slices.Equal(y, x.want) || e != api.OK {
			t.Error(i, y, e)
		}
	}
}

// P6.2: the chapter's example, estates that are inherited, sold, divided and joined, and estates and grants with numbers of both.
func TestEstates(t *testing.T) {
	many := bookOf(list(0, 0, 1, 1, 2, 2), attach(1, 5, first, 10), divide(2, 0, 5, 3), sell(2, 6, 0), join(3, 0, 6), die(4, 0, 1), join(5, 2, 0), die(6, 1, 2))
	for i, x := range []struct {
		b    api.GrantBook
		day  int
		want []int
	}{
		{bookG(), 0, list(0, 1)}, {bookG(), 99, list(0, 1)}, {bookG(), 100, list(3, 1)}, {bookG(), 200, list(1, 1)}, {bookG(), 300, list(1, 1, 2)}, {bookG(), 399, list(1, 1, 2)}, {bookG(), 400, list(1, -1, 2)},
		{bookOf(nil), 0, nil}, {many, 1, list(0, 0, 1, 1, 2, 2)}, {many, 2, list(0, 0, 1, 1, 2, 2, 0)}, {many, 3, list(0, 0, 1, 1, 2, 2, -1)}, {many, 4, list(1, 1, 1, 1, 2, 2, -1)},
		{many, 5, list(-1, 1, 1, 1, 2, 2, -1)}, {many, 36500, list(-1, 2, 2, 2, 2, 2, -1)},
	} {
		if y, e := grant.Estates(x.b, x.day); !slices.Equal(y, x.want) || e != api.OK {
			t.Error(i, y, e)
		}
	}
}

// P6.3: the chapter's examples, and water that is just enough for who waits, or not.
func TestWaterAndWaiting(t *testing.T) {
	queue := bookOf(nil, give(0, 0, first, 20), ask(1, 1, first, 25), ask(1, 2, first, 30), ask(2, 2, first, 5), ask(2, 1, first, 5), die(3, 2, 1), die(10, 0, 3))
	frees := bookOf(list(0), attach(0, 0, first, 20), ask(0, 1, first, 25), ask(0, 2, second, 4), divide(3, 0, 10, 0))
	frees.Supply = 95
	for i, x := range []struct {
		b             api.GrantBook
		day           int
		granted, free int
		waiting       []int
	}{
		{bookG(), 0, 0, 100, nil}, {bookG(), 10, 45, 55, nil}, {bookG(), 20, 65, 35, nil}, {bookG(), 30, 65, 35, list(2)}, {bookG(), 130, 65, 35, list(2)}, {bookG(), 131, 75, 25, nil}, {bookG(), 400, 75, 25, nil},
		{queue, 0, 45, 55, nil}, {queue, 1, 100, 0, list(2)}, {queue, 2, 100, 0, list(2, 3, 4)}, {queue, 3, 100, 0, list(4)}, {queue, 40, 100, 0, list(4)}, {queue, 41, 65, 35, nil},
		{frees, 0, 45, 50, list(1, 2)}, {frees, 3, 95, 0, list(2)}, {bookOf(nil), 36500, 0, 100, nil},
		{bookOf(nil, ask(0, 0, first, 40), ask(0, 0, first, 5), ask(0, 0, first, 5)), 0, 100, 0, list(2)}, {bookOf(nil, ask(0, 0, first, 50), ask(0, 0, first, 5)), 0, 0, 100, list(0, 1)},
	} {
		if y, z, e := grant.Water(x.b, x.day); y != x.granted || z != x.free || e != api.OK {
			t.Error(i, y, z, e)
		}
		if y, e := grant.Waiting(x.b, x.day); !slices.Equal(y, x.waiting) || e != api.OK {
			t.Error(i, y, e)
		}
	}
}

// P6.4: the chapter's examples, grants that end on one day, or with their heir, or on days that do not come.
func TestFell(t *testing.T) {
	many := bookOf(nil, give(0, 1, first, 5), give(0, 0, first, 5), give(0, 2, second, 4), give(0, 1, second, 4), die(1, 0, 3), die(2, 1, 3), die(2, 2, 3))
	heirs := bookOf(nil, give(0, 1, first, 5), give(0, 1, second, 4), give(0, 2, first, 5), give(0, 2, second, 4), die(1, 1, 3), die(2, 2, 3), renew(10, 2, 3), renew(10, 0, 3), die(10, 3, 0))
	late := changed(bookOf(nil, give(0, 0, first, 5), give(0, 1, first, 5), die(36470, 0, 2), die(36471, 1, 2)), func(b *api.GrantBook) { b.Term = 29 })
	for i, x := range []struct {
		b        api.GrantBook
		from, to int
		want     []int
	}{
		{bookG(), 0, 400, list(0)}, {bookG(), 0, 130, nil}, {bookG(), 131, 131, list(0)}, {bookG(), 0, 131, list(0)}, {bookG(), 131, 36500, list(0)}, {bookG(), 132, 36500, nil}, {bookG(), 0, 0, nil},
		{many, 0, 36500, list(1, 0, 2, 3)}, {many, 32, 32, list(1)}, {many, 33, 33, list(0, 2, 3)}, {many, 32, 33, list(1, 0, 2, 3)}, {many, 33, 36500, list(0, 2, 3)}, {many, 0, 32, list(1)},
		{heirs, 0, 36500, list(1, 3, 0, 2)}, {heirs, 10, 10, list(1, 3)}, {heirs, 11, 40, nil}, {heirs, 41, 41, list(0, 2)},
		{late, 0, 36500, list(0)}, {late, 36500, 36500, list(0)}, {late, 0, 36499, nil}, {with(late, die(36472, 2, 3)), 0, 36500, list(0, 1)}, {with(late, die(36472, 2, 3)), 36472, 36472, list(0, 1)},
	} {
		if y, e := grant.Fell(x.b, x.from, x.to); !slices.Equal(y, x.want) || e != api.OK {
			t.Error(i, y, e)
		}
	}
}

// P6.5: the chapter's examples, grants of persons and of estates in both systems, and such as are open.
func TestHolds(t *testing.T) {
	both := bookOf(list(1, 1, 2), give(0, 1, first, 20), attach(0, 0, second, 16), attach(0, 2, first, 5), die(5, 1, 2))
	for i, x := range []struct {
		b      api.GrantBook
		person int
		in     api.NozzleSystem
		day    int
		want   api.Span
	}{
		{bookG(), 2, first, 131, span(25, 25)}, {bookG(), 2, second, 131, span(19, 20)}, {bookG(), 0, first, 50, span(30, 30)}, {bookG(), 0, second, 50, span(23, 24)}, {bookG(), 2, first, 130, span(0, 0)},
		{bookG(), 0, first, 100, span(0, 0)}, {bookG(), 3, first, 100, span(10, 10)}, {bookG(), 3, first, 200, span(0, 0)}, {bookG(), 2, first, 300, span(30, 30)}, {bookG(), 2, second, 300, span(23, 24)},
		{both, 1, first, 0, span(40, 40)}, {both, 1, second, 0, span(31, 32)}, {both, 2, second, 4, span(4, 4)}, {both, 1, first, 5, span(0, 0)}, {both, 2, first, 5, span(25, 25)}, {both, 2, second, 35, span(20, 20)},
		{both, 0, second, 5, span(0, 0)}, {with(both, renew(35, 0, 2)), 2, second, 36, span(35, 36)}, {bookOf(nil), 3, second, 36500, span(0, 0)},
	} {
		if y, e := grant.Holds(x.b, x.person, x.in, x.day); y != x.want || e != api.OK {
			t.Error(i, y, e)
		}
	}
}

// dayErrors calls all functions of a day, and tests that they return an error alone.
func dayErrors(t *testing.T, b api.GrantBook, day int, want api.Errno) {
	t.Helper()
	if y, e := grant.States(b, day); len(y) > 0 || e != want {
		t.Error("States", b, day, y, e)
	}
	if y, e := grant.Estates(b, day); len(y) > 0 || e != want {
		t.Error("Estates", b, day, y, e)
	}
	if y, z, e := grant.Water(b, day); y != 0 || z != 0 || e != want {
		t.Error("Water", b, day, y, z, e)
	}
	if y, e := grant.Waiting(b, day); len(y) > 0 || e != want {
		t.Error("Waiting", b, day, y, e)
	}
	if y, e := grant.Fell(b, 0, day); len(y) > 0 || e != want {
		t.Error("Fell", b, day, y, e)
	}
	if y, e := grant.Holds(b, 0, first, day); y != span(0, 0) || e != want {
		t.Error("Holds", b, day, y, e)
	}
}

// P6.2 to P6.5: errors in their order; a register that is not right has no earlier days.
func TestErrorsOfDays(t *testing.T) {
	for _, b := range wrongBooks() {
		dayErrors(t, b, 10, api.ErrArg)
	}
	for _, x := range unrightBooks() {
		dayErrors(t, x.b, 0, api.ErrRule)
		dayErrors(t, x.b, 36500, api.ErrRule)
	}
	for _, day := range wrongDays() {
		dayErrors(t, bookG(), day, api.ErrArg)
		dayErrors(t, unrightBooks()[0].b, day, api.ErrArg)
	}
	for _, b := range []api.GrantBook{bookG(), unrightBooks()[0].b} {
		for i, x := range [][]int{{-1, 5}, {6, 5}, {36501, 36501}, {36501, 5}, {-huge - 1, huge}, {huge, huge}, {5, 36501}, {-2, -1}} {
			if y, e := grant.Fell(b, x[0], x[1]); len(y) > 0 || e != api.ErrArg {
				t.Error(i, y, e)
			}
		}
		for _, n := range list(-1, 4, huge, -huge-1) {
			if y, e := grant.Holds(b, n, first, 5); y != span(0, 0) || e != api.ErrArg {
				t.Error(n, y, e)
			}
		}
		for _, n := range list(-1, 0, 3, huge, -huge-1) {
			if y, e := grant.Holds(b, 0, api.NozzleSystem(n), 5); y != span(0, 0) || e != api.ErrArg {
				t.Error(n, y, e)
			}
		}
	}
}
