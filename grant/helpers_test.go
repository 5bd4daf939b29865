package grant_test

import (
	"math/rand/v2"
	"slices"

	"quinaria/api"
)

const huge = int(^uint(0) >> 1)

const (
	first  = api.NozzleFirst
	second = api.NozzleSecond
	stands = api.GrantStands
	open   = api.GrantOpen
	ended  = api.GrantEnded
)

func span(low, high int) api.Span { return api.Span{Low: low, High: high} }

func list(n ...int) []int { return n }

func give(day, person int, in api.NozzleSystem, units int) api.GrantEvent {
	return api.GrantEvent{Kind: api.GrantGive, Day: day, Person: person, System: in, Units: units}
}

func attach(day, estate int, in api.NozzleSystem, units int) api.GrantEvent {
	return api.GrantEvent{Kind: api.GrantAttach, Day: day, Estate: estate, System: in, Units: units}
}

func die(day, person, heir int) api.GrantEvent {
	return api.GrantEvent{Kind: api.GrantDie, Day: day, Person: person, Other: heir}
}

func sell(day, estate, person int) api.GrantEvent {
	return api.GrantEvent{Kind: api.GrantSell, Day: day, Estate: estate, Person: person}
}

func divide(day, grant, units, person int) api.GrantEvent {
	return api.GrantEvent{Kind: api.GrantDivide, Day: day, Grant: grant, Units: units, Person: person}
}

func join(day, estate, other int) api.GrantEvent {
	return api.GrantEvent{Kind: api.GrantJoin, Day: day, Estate: estate, Other: other}
}

func renew(day, grant, person int) api.GrantEvent {
	return api.GrantEvent{Kind: api.GrantRenew, Day: day, Grant: grant, Person: person}
}

func ask(day, person int, in api.NozzleSystem, units int) api.GrantEvent {
	return api.GrantEvent{Kind: api.GrantAsk, Day: day, Person: person, System: in, Units: units}
}

func events(x ...api.GrantEvent) []api.GrantEvent { return x }

func state(is api.GrantIs, person, estate int, in api.NozzleSystem, units int) api.GrantState {
	return api.GrantState{Is: is, Person: person, Estate: estate, System: in, Units: units}
}

func states(x ...api.GrantState) []api.GrantState { return x }

func place(event int, options ...api.GrantEvent) api.GrantTorn {
	return api.GrantTorn{Event: event, Options: options}
}

func places(x ...api.GrantTorn) []api.GrantTorn { return x }

// table returns a table whose rows have a First, a Second and a Gives, one after the other.
func table(n ...int) api.NozzleTable {
	t := api.NozzleTable{Draw: 50}
	for i := 0; i < len(n); i += 3 {
		t.Rows = append(t.Rows, api.NozzleRow{First: n[i], Second: n[i+1], Gives: n[i+2]})
	}
	return t
}

// tableT is the table t of layer 3's examples.
func tableT() api.NozzleTable { return table(5, 4, 10, 10, 8, 20, 20, 15, 45) }

// unfair is a table of which a nozzle of 10 units gives less than both halves do, and one of 60 more than there mostly is.
func unfair() api.NozzleTable { return table(10, 6, 1, 5, 3, 20, 60, 50, 300) }

// bookOf returns a register with the table t, the supply 100, the term 30, 4 persons, and some owners.
func bookOf(owners []int, x ...api.GrantEvent) api.GrantBook {
	return api.GrantBook{Table: tableT(), Supply: 100, Term: 30, Persons: 4, Owners: owners, Events: x}
}

// bookG is the chapter's register g.
func bookG() api.GrantBook {
	return bookOf(list(0, 1), give(10, 0, first, 20), attach(20, 0, first, 10), ask(30, 2, first, 25), die(100, 0, 3), sell(200, 0, 1), divide(300, 1, 5, 2), join(400, 0, 1))
}

// bookH is the chapter's register h.
func bookH() api.GrantBook {
	h := bookG()
	h.Events = h.Events[:4]
	return h
}

// smallBook is the register whose text the chapter shows.
func smallBook() api.GrantBook { return bookOf(list(0, 1), give(10, 0, first, 20)) }

// fullBook is a register with as much of everything as there can be.
func fullBook() api.GrantBook {
	b := api.GrantBook{Supply: 10000, Term: 1000, Persons: 8, Owners: list(7, 6, 5, 4, 3, 2)}
	for i := range 12 {
		b.Table.Rows = append(b.Table.Rows, api.NozzleRow{First: 60 - i, Second: 49 + i, Gives: 1000 - 7*i})
		b.Events = append(b.Events, attach(36500, 5, second, 49+i))
	}
	b.Table.Draw = 100
	return b
}

// with returns a register with further events.
func with(b api.GrantBook, x ...api.GrantEvent) api.GrantBook {
	b.Events = append(slices.Clone(b.Events), x...)
	return b
}

// instead returns a register with another event in place of one.
func instead(b api.GrantBook, i int, x api.GrantEvent) api.GrantBook {
	b.Events = slices.Clone(b.Events)
	b.Events[i] = x
	return b
}

// changed returns a register with some change.
func changed(b api.GrantBook, change func(*api.GrantBook)) api.GrantBook {
	b.Owners, b.Events, b.Table.Rows = slices.Clone(b.Owners), slices.Clone(b.Events), slices.Clone(b.Table.Rows)
	change(&b)
	return b
}

// ourBooks are registers of all kinds that are right.
func ourBooks() []api.GrantBook {
	full := fullBook()
	full.Events = full.Events[:10]
	return []api.GrantBook{
		bookG(), bookH(), smallBook(), full, {Table: table(1, 1, 1), Persons: 1}, bookOf(nil), bookOf(list(3)),
		bookOf(nil, give(0, 0, first, 20), give(0, 1, second, 8), ask(1, 2, second, 19), ask(2, 3, first, 5), die(5, 0, 1), die(6, 1, 2), die(40, 2, 3)),
		bookOf(list(0, 0, 0), attach(3, 0, second, 23), join(4, 1, 0), divide(5, 0, 8, 3), die(5, 0, 3), join(5, 3, 1), join(36500, 3, 2)),
		changed(bookOf(list(1), give(7, 0, first, 40), die(7, 0, 1), renew(7, 0, 1), die(8, 1, 2)), func(b *api.GrantBook) { b.Term = 0 }),
	}
}

// wrongBooks are registers each of which is not as defined in one way.
func wrongBooks() (wrong []api.GrantBook) {
	put := func(change func(*api.GrantBook)) { wrong = append(wrong, changed(bookG(), change)) }
	put(func(b *api.GrantBook) { *b = api.GrantBook{} })
	put(func(b *api.GrantBook) { b.Table = api.NozzleTable{} })
	put(func(b *api.GrantBook) { b.Table.Draw = 101 })
	put(func(b *api.GrantBook) { b.Table.Rows[1].Gives = 0 })
	put(func(b *api.GrantBook) { b.Table.Rows = make([]api.NozzleRow, 13) })
	put(func(b *api.GrantBook) { b.Owners = make([]int, 7) })
	put(func(b *api.GrantBook) { b.Owners = append(b.Owners, 4) })
	put(func(b *api.GrantBook) { b.Events = slices.Repeat(b.Events[:1], 13) })
	put(func(b *api.GrantBook) { b.Persons = 3 })
	put(func(b *api.GrantBook) { b.Events[6].Day = 299 })
	put(func(b *api.GrantBook) { b.Events[0].Day = 21 })
	for _, n := range list(-1, huge, -huge-1, 0, 9) {
		put(func(b *api.GrantBook) { b.Persons = n })
	}
	for _, n := range list(-1, huge, -huge-1, 10001) {
		put(func(b *api.GrantBook) { b.Supply = n })
	}
	for _, n := range list(-1, huge, -huge-1, 1001) {
		put(func(b *api.GrantBook) { b.Term = n })
	}
	for _, n := range list(-1, huge, -huge-1, 4) {
		put(func(b *api.GrantBook) { b.Owners[1] = n })
	}
	for _, x := range wrongEvents() {
		put(func(b *api.GrantBook) { b.Events = events(x) })
		put(func(b *api.GrantBook) { b.Events = events(give(0, 0, first, 5), x) })
	}
	return wrong
}

// wrongEvents are events each of which is not as defined in one way, in a register with 4 persons.
func wrongEvents() []api.GrantEvent {
	wrong := events(api.GrantEvent{}, api.GrantEvent{Kind: 9, Day: 5}, api.GrantEvent{Kind: -1, Day: 5}, api.GrantEvent{Kind: api.GrantKind(huge)})
	for _, n := range list(-1, huge, -huge-1, 4) {
		wrong = append(wrong, give(5, n, first, 5), ask(5, n, first, 5), die(5, n, 0), die(5, 0, n), sell(5, 0, n), divide(5, 0, 5, n), renew(5, 0, n))
	}
	for _, n := range list(-1, huge, -huge-1, 36501) {
		wrong = append(wrong, give(n, 0, first, 5), attach(n, 0, first, 5), die(n, 0, 1), sell(n, 0, 1), divide(n, 0, 5, 1), join(n, 0, 1), renew(n, 0, 1), ask(n, 0, first, 5))
	}
	for _, n := range list(-1, huge, -huge-1, 19) {
		wrong = append(wrong, attach(5, n, first, 5), sell(5, n, 0), join(5, n, 0), join(5, 0, n))
	}
	for _, n := range list(-1, huge, -huge-1, 13) {
		wrong = append(wrong, divide(5, n, 5, 0), renew(5, n, 0))
	}
	for _, n := range list(-1, huge, -huge-1, 0, 361) {
		wrong = append(wrong, give(5, 0, first, n), ask(5, 0, second, n), attach(5, 0, first, n), divide(5, 0, n, 0))
	}
	for _, n := range list(-1, huge, -huge-1, 0, 3) {
		in := api.NozzleSystem(n)
		wrong = append(wrong, give(5, 0, in, 5), ask(5, 0, in, 5), attach(5, 0, in, 5))
	}
	return append(wrong, strayEvents()...)
}

// strayEvents are events each of which has one field that its kind has not.
func strayEvents() (stray []api.GrantEvent) {
	for _, n := range list(1, -1, huge) {
		for _, x := range events(give(5, 1, first, 5), ask(5, 1, first, 5), attach(5, 1, first, 5), die(5, 1, 2), sell(5, 1, 2), divide(5, 1, 5, 2), join(5, 1, 2), renew(5, 1, 2)) {
			for _, field := range []func(*api.GrantEvent) *int{
				func(x *api.GrantEvent) *int { return &x.Person }, func(x *api.GrantEvent) *int { return &x.Other }, func(x *api.GrantEvent) *int { return &x.Estate },
				func(x *api.GrantEvent) *int { return &x.Grant }, func(x *api.GrantEvent) *int { return &x.Units },
			} {
				y := x
				if *field(&y) == 0 {
					*field(&y) = n
					stray = append(stray, y)
				}
			}
			if x.System == 0 {
				x.System = api.NozzleSystem(n)
				stray = append(stray, x)
			}
		}
	}
	return stray
}

// unright is a register that is as defined, but not right, with its first event that does not go.
type unright struct {
	wrong int
	b     api.GrantBook
}

func unrightBooks() []unright {
	return []unright{
		{0, bookOf(nil, attach(0, 0, first, 5), give(0, 0, first, 5))}, {4, with(bookH(), renew(131, 0, 3))}, {1, bookOf(nil, give(5, 0, first, 5), give(36500, 0, first, 120))},
		{7, with(bookG(), sell(500, 1, 0))}, {10, fullBook()}, {2, bookOf(nil, give(5, 0, first, 5), die(5, 0, 1), die(5, 0, 2), give(6, 0, first, 5))},
	}
}

// wrongDays are numbers that are no days.
func wrongDays() []int { return list(-1, 36501, huge, -huge-1) }

// someTables are tables of all kinds, for registers of few units.
func someTables() []api.NozzleTable {
	return []api.NozzleTable{tableT(), unfair(), table(1, 2, 3, 2, 1, 4), table(3, 3, 7, 7, 2, 11, 7, 4, 9, 13, 9, 30)}
}

// someEvent returns an event that perhaps goes in a register, after its last one.
func someEvent(r *rand.Rand, b api.GrantBook) api.GrantEvent {
	x := api.GrantEvent{Kind: api.GrantKind(1 + r.IntN(8))}
	if n := len(b.Events); n > 0 {
		x.Day = b.Events[n-1].Day + []int{0, 0, r.IntN(4), r.IntN(15)}[r.IntN(4)]
	}
	person, estate, grant := r.IntN(b.Persons), r.IntN(len(b.Owners)+2), r.IntN(len(b.Events)+1)
	row := b.Table.Rows[r.IntN(len(b.Table.Rows))]
	units := list(row.First, row.Second, row.First+b.Table.Rows[0].First, 2*row.Second, 3*row.First, 1+r.IntN(30))[r.IntN(6)]
	switch x.Kind {
	case api.GrantGive, api.GrantAsk:
		x.Person, x.System, x.Units = person, api.NozzleSystem(1+r.IntN(2)), units
	case api.GrantAttach:
		x.Estate, x.System, x.Units = estate, api.NozzleSystem(1+r.IntN(2)), units
	case api.GrantDie:
		x.Person, x.Other = person, r.IntN(b.Persons)
	case api.GrantSell:
		x.Estate, x.Person = estate, person
	case api.GrantDivide:
		x.Grant, x.Units, x.Person = grant, units, person
	case api.GrantJoin:
		x.Estate, x.Other = estate, r.IntN(len(b.Owners)+2)
	case api.GrantRenew:
		x.Grant, x.Person = grant, person
	}
	return x
}

// someBook returns a register with up to so many events; at most so many of them are put there whether they go or not.
func someBook(r *rand.Rand, most, perhaps int) api.GrantBook {
	tables := someTables()
	b := api.GrantBook{Table: tables[r.IntN(len(tables))], Supply: r.IntN(130), Term: []int{0, 1, r.IntN(20)}[r.IntN(3)], Persons: 1 + r.IntN(5)}
	for range r.IntN(4) {
		b.Owners = append(b.Owners, r.IntN(b.Persons))
	}
	for range most {
		for range 30 {
			x := someEvent(r, b)
			_, wrong := follow(with(b, x), 0)
			if wrong < 0 {
				b = with(b, x)
				break
			}
			if perhaps > 0 && r.IntN(60) == 0 {
				b, perhaps = with(b, x), perhaps-1
				break
			}
		}
	}
	return b
}

// lastOf returns a day on which everything has ended that events of a register let end.
func lastOf(b api.GrantBook) int {
	last := b.Term + 2
	if n := len(b.Events); n > 0 {
		last += b.Events[n-1].Day
	}
	return min(last, api.GrantDays)
}

// sameBook reports whether two registers are the same value.
func sameBook(a, b api.GrantBook) bool {
	return slices.Equal(a.Table.Rows, b.Table.Rows) && a.Table.Draw == b.Table.Draw && a.Supply == b.Supply && a.Term == b.Term && a.Persons == b.Persons &&
		slices.Equal(a.Owners, b.Owners) && slices.Equal(a.Events, b.Events)
}

// isNone reports whether a register is the zero value.
func isNone(b api.GrantBook) bool { return sameBook(b, api.GrantBook{}) }
