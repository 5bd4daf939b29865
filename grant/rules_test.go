package grant_test

import (
	"reflect"
	"slices"
	"testing"

	"quinaria/api"
	"quinaria/grant"
)

// given is the arguments of all functions.
type given struct {
	b             api.GrantBook
	torn          []api.GrantTorn
	from, day     int
	grant, person int
	in            api.NozzleSystem
	table         api.NozzleTable
	text          string
}

// clone returns arguments in memory of their own.
func (x given) clone() given {
	x.b = changed(x.b, func(*api.GrantBook) {})
	x.table.Rows = slices.Clone(x.table.Rows)
	x.torn = slices.Clone(x.torn)
	for i := range x.torn {
		x.torn[i].Options = slices.Clone(x.torn[i].Options)
	}
	return x
}

// answer is what a function returns: one or two results, and an error.
func answer(x ...any) []any { return x }

// answers returns what all functions return for some arguments.
func answers(x given) [][]any {
	all := [][]any{{grant.Check(x.b)}}
	put := func(y any, e api.Errno) { all = append(all, answer(y, e)) }
	putTwo := func(y, z int, e api.Errno) { all = append(all, answer(y, z, e)) }
	wrong, e := grant.Wrong(x.b)
	put(wrong, e)
	states, e := grant.States(x.b, x.day)
	put(states, e)
	estates, e := grant.Estates(x.b, x.day)
	put(estates, e)
	putTwo(grant.Water(x.b, x.day))
	waiting, e := grant.Waiting(x.b, x.day)
	put(waiting, e)
	fell, e := grant.Fell(x.b, x.from, x.day)
	put(fell, e)
	holds, e := grant.Holds(x.b, x.person, x.in, x.day)
	put(holds, e)
	truths, e := grant.Truths(x.b, x.torn)
	put(truths, e)
	word, e := grant.May(x.b, x.torn, x.grant, x.person, x.day)
	put(word, e)
	putTwo(grant.Look(x.b, x.torn))
	text, e := grant.Print(x.b)
	put(text, e)
	read, e := grant.Read(x.table, x.text)
	put(read, e)
	printed, e := grant.Read(x.b.Table, text)
	put(printed, e)
	return all
}

// ours are some arguments, with most of which all functions have results.
func ours() (all []given) {
	small := "grants 100 30 4 0 1\ngive 10 0 1 20\nend 016\n"
	for i, x := range ourTorn() {
		all = append(all, given{x.b, x.torn, 0, 131, i % 3, i % 4, first, tableT(), small})
	}
	for i, b := range ourBooks() {
		all = append(all, given{b, nil, 5, 36500, i, 0, second, tableT(), small})
	}
	return all
}

// P0.1, R5: every function answers, whatever the arguments are.
func TestAnyValue(t *testing.T) {
	values := []int{-huge - 1, -36500, -1, 0, 1, 2, 3, 8, 9, 12, 13, 18, 19, 360, 361, 1001, 10001, 36500, 36501, huge - 1, huge}
	for _, x := range ours()[:4] {
		for i, a := range values {
			for j, b := range values {
				c, d := values[(i+j+5)%len(values)], values[(3*i+j+1)%len(values)]
				y := x.clone()
				y.from, y.day, y.grant, y.person, y.in = a, b, c, d, api.NozzleSystem(d)
				answers(y)
				event := api.GrantEvent{Kind: api.GrantKind(d), Day: a, Person: b, Other: c, Estate: a, Grant: d, System: api.NozzleSystem(c), Units: a}
				y.b.Events = append(y.b.Events, event)
				y.torn = places(place(b, event, event), place(a, event))
				answers(y)
				y.b = api.GrantBook{Table: table(a, b, c), Supply: a, Term: b, Persons: c, Owners: list(d, a), Events: events(event)}
				answers(y)
			}
		}
	}
	for k := api.GrantKind(0); k <= 9; k++ {
		for _, a := range values {
			for _, b := range values {
				event := api.GrantEvent{Kind: k, Person: a, Other: b, Estate: a, Grant: b, System: api.NozzleSystem(a), Units: b}
				answers(given{b: bookOf(list(0, 1), attach(0, 0, first, 10), event), torn: places(place(0, event), place(1, event)), grant: a, person: b})
			}
		}
	}
	many := given{b: bookOf(make([]int, 100000), make([]api.GrantEvent, 100000)...), torn: make([]api.GrantTorn, 100000), table: api.NozzleTable{Rows: make([]api.NozzleRow, 100000)}}
	answers(many)
	answers(given{})
}

// R2: with an error, all other results are zero values.
func TestErrorsHaveNoResults(t *testing.T) {
	books := wrongBooks()
	for _, x := range unrightBooks() {
		books = append(books, x.b)
	}
	for _, x := range ours()[:3] {
		for _, b := range books {
			x.b = b
			for i, y := range answers(x) {
				if y[len(y)-1] == api.OK {
					continue
				}
				for _, z := range y[:len(y)-1] {
					if v := reflect.ValueOf(z); !v.IsZero() && !(v.Kind() == reflect.Slice && v.Len() == 0) {
						t.Error(i, b, y)
					}
				}
			}
		}
	}
}

// R4, R8: no argument is changed, no result shares memory with another one, and equal calls have equal results.
func TestNothingIsKept(t *testing.T) {
	for i, x := range ours() {
		before := x.clone()
		once := answers(x)
		again := answers(x.clone())
		if !reflect.DeepEqual(x, before) || !reflect.DeepEqual(once, again) {
			t.Error(i, x, once, again)
		}
		for _, y := range once {
			spoil(y[0])
		}
		if !reflect.DeepEqual(x, before) || !reflect.DeepEqual(again, answers(x)) {
			t.Error("results share memory", i, x, before)
		}
	}
}

// spoil overwrites the memory of a result.
func spoil(x any) {
	switch y := x.(type) {
	case []int:
		for i := range y {
			y[i] = -77
		}
	case []api.GrantState:
		for i := range y {
			y[i].Person = -77
		}
	case api.GrantBook:
		spoil(y.Owners)
		spoil(append(y.Owners, -77))
		for i := range y.Events {
			y.Events[i].Kind = -77
		}
		for i := range y.Table.Rows {
			y.Table.Rows[i].Gives = -77
		}
	}
}

// R4: owners, events and options with room behind them are not written to.
func TestRoomBehindLists(t *testing.T) {
	b := bookOf(list(0, 1, 2, 3), attach(0, 0, first, 10), divide(1, 0, 5, 2), give(2, 0, first, 5))
	whole := changed(b, func(*api.GrantBook) {})
	x := given{b: b, torn: places(place(0, attach(0, 0, first, 10))), day: 5, in: first, table: tableT()}
	x.b.Owners, x.b.Events = b.Owners[:1], b.Events[:2]
	answers(x)
	if !sameBook(b, whole) {
		t.Error(b, whole)
	}
}

// R3: nil and empty lists are the same.
func TestNilAndEmpty(t *testing.T) {
	for _, x := range ours() {
		x.b.Owners, x.b.Events, x.torn = nil, nil, nil
		y := x
		y.b.Owners, y.b.Events, y.torn = list(), events(), places()
		one, other := answers(x), answers(y)
		for i := range one {
			if !reflect.DeepEqual(one[i], other[i]) {
				t.Error(i, one[i], other[i])
			}
		}
		x.torn, y.torn = places(api.GrantTorn{}), places(api.GrantTorn{Options: events()})
		x.b.Table.Rows, y.b.Table.Rows = nil, []api.NozzleRow{}
		if !reflect.DeepEqual(answers(x), answers(y)) {
			t.Error(answers(x), answers(y))
		}
	}
}
