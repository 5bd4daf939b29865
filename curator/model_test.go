package curator_test

import (
	"math/rand/v2"
	"slices"
	"strings"

	"quinaria/api"
	"quinaria/drought"
	"quinaria/gate"
	"quinaria/grant"
	"quinaria/leak"
)

// model is a desk as the chapter tells of it: of all that stands, each part is told by the entries that stand, all at once.
type model struct {
	s    api.CuratorSuite
	made []api.CuratorEntry
}

// numbers returns the numbers of all entries that stand: each undo takes back the last one before it.
func (m model) numbers() (stand []int) {
	for i, x := range m.made {
		if x.Kind == api.CuratorUndo {
			stand = stand[:len(stand)-1]
		} else {
			stand = append(stand, i)
		}
	}
	return stand
}

// standing returns all entries that stand.
func (m model) standing() (all []api.CuratorEntry) {
	for _, i := range m.numbers() {
		all = append(all, m.made[i])
	}
	return all
}

// with returns a model with an entry more, whether it goes or not.
func (m model) with(x api.CuratorEntry) model {
	return model{m.s, append(slices.Clone(m.made), x)}
}

// dayOf returns on which day such entries are made.
func dayOf(all []api.CuratorEntry) (day int) {
	for _, x := range all {
		if x.Kind == api.CuratorWait {
			day += x.Numbers[0]
		}
	}
	return day
}

// book returns the register.
func (m model) book() api.GrantBook {
	b, all := m.s.Register, m.standing()
	b.Events = nil
	for i, x := range all {
		n, y := x.Numbers, api.GrantEvent{Day: dayOf(all[:i])}
		switch x.Kind {
		case api.CuratorGive:
			y.Kind, y.Person, y.System, y.Units = api.GrantGive, n[0], api.NozzleSystem(n[1]), n[2]
		case api.CuratorAttach:
			y.Kind, y.Estate, y.System, y.Units = api.GrantAttach, n[0], api.NozzleSystem(n[1]), n[2]
		case api.CuratorDie:
			y.Kind, y.Person, y.Other = api.GrantDie, n[0], n[1]
		case api.CuratorSell:
			y.Kind, y.Estate, y.Person = api.GrantSell, n[0], n[1]
		case api.CuratorDivide:
			y.Kind, y.Grant, y.Units, y.Person = api.GrantDivide, n[0], n[1], n[2]
		case api.CuratorJoin:
			y.Kind, y.Estate, y.Other = api.GrantJoin, n[0], n[1]
		case api.CuratorRenew:
			y.Kind, y.Grant, y.Person = api.GrantRenew, n[0], n[1]
		case api.CuratorAsk:
			y.Kind, y.Person, y.System, y.Units = api.GrantAsk, n[0], api.NozzleSystem(n[1]), n[2]
		default:
			continue
		}
		b.Events = append(b.Events, y)
	}
	return b
}

// isGate reports whether there is such a channel with a gate.
func (m model) isGate(k int) bool {
	return 0 <= k && k < len(m.s.Net.Channels) && m.s.Net.Channels[k].Gate
}

// open returns all gates that are open: those that were moved an even number of times, if they were open, and an odd number of times, if they were not.
func (m model) open() (open []int) {
	for k := range m.s.Net.Channels {
		isOpen := slices.Contains(m.s.Open, k)
		for _, x := range m.standing() {
			if x.Kind == api.CuratorMove && x.Numbers[0] == k {
				isOpen = !isOpen
			}
		}
		if isOpen {
			open = append(open, k)
		}
	}
	return open
}

// since returns how many days ago a channel was cleaned last.
func (m model) since(k int) int {
	all := m.standing()
	for i := len(all) - 1; i >= 0; i-- {
		if all[i].Kind == api.CuratorClean && all[i].Numbers[0] == k {
			return dayOf(all[i:])
		}
	}
	return dayOf(all)
}

// line returns the line, with all counts behind the last forgetting.
func (m model) line() api.LeakLine {
	l := m.s.Line
	l.Counts = nil
	all := m.standing()
	for i, x := range all {
		forgotten := slices.ContainsFunc(all[i:], func(y api.CuratorEntry) bool { return y.Kind == api.CuratorForget })
		if x.Kind == api.CuratorCount && !forgotten {
			l.Counts = append(l.Counts, api.LeakCount{Point: x.Numbers[0], Low: x.Numbers[1], High: x.Numbers[2]})
		}
	}
	return l
}

// tree returns the tree, with the last inflow.
func (m model) tree() api.DroughtTree {
	t := m.s.Tree
	for _, x := range m.standing() {
		if x.Kind == api.CuratorInflow {
			t.Inflow = x.Numbers[0]
		}
	}
	return t
}

// goes reports whether an entry goes that is formed.
func (m model) goes(x api.CuratorEntry) bool {
	if x.Kind == api.CuratorUndo {
		return len(m.numbers()) > 0
	}
	then := m.with(x)
	switch x.Kind {
	case api.CuratorWait:
		return x.Numbers[0] > 0 && dayOf(then.standing()) <= 36500
	case api.CuratorMove:
		if !m.isGate(x.Numbers[0]) {
			return false
		}
		_, e := gate.Cut(m.s.Net, then.open())
		return e == api.ErrNone
	case api.CuratorClean:
		return m.isGate(x.Numbers[0]) && !slices.Contains(m.open(), x.Numbers[0])
	case api.CuratorCount:
		is, e := leak.Possible(then.line())
		return is && e == api.OK
	case api.CuratorForget:
		return true
	case api.CuratorInflow:
		return x.Numbers[0] <= 200
	}
	_, e := grant.Wrong(then.book())
	return grant.Check(then.book()) == api.OK && e == api.ErrNone
}

// enter returns the error of an entry that is formed, and makes it if there is none.
func (m *model) enter(x api.CuratorEntry) api.Errno {
	switch {
	case len(m.made) == 24:
		return api.ErrLong
	case !m.goes(x):
		return api.ErrRule
	}
	*m = m.with(x)
	return api.OK
}

// answer returns the answer of a question that has as many numbers as it should have.
func (m model) answer(q api.CuratorQuestion) told {
	day, n := dayOf(m.standing()), q.Numbers
	some := func(e api.Errno, numbers ...int) told {
		if e != api.OK {
			return told{nil, e}
		}
		return told{numbers, e}
	}
	switch q.Kind {
	case api.CuratorDay:
		return some(api.OK, day)
	case api.CuratorGates:
		return some(api.OK, m.open()...)
	case api.CuratorMoves:
		moves, e := gate.Moves(m.s.Net, m.open(), n)
		return some(e, moves...)
	case api.CuratorSince:
		if !m.isGate(n[0]) {
			return some(api.ErrArg)
		}
		return some(api.OK, m.since(n[0]))
	case api.CuratorOldest:
		return m.oldest()
	case api.CuratorNext:
		point, many, e := leak.Next(m.line(), n[0])
		return some(e, point, many)
	case api.CuratorShares:
		shares, e := drought.Shares(m.tree())
		return some(e, shares...)
	case api.CuratorWhy:
		node, e := drought.Why(m.tree(), n[0])
		return some(e, node)
	case api.CuratorStands:
		return some(api.OK, m.numbers()...)
	case api.CuratorTapped:
		known, e := leak.Known(m.line())
		var all []int
		for _, x := range known {
			all = append(all, int(x))
		}
		return some(e, all...)
	}
	return m.ofGrants(q, day)
}

// oldest goes from the last channel to the first one.
func (m model) oldest() told {
	oldest, days := -1, -1
	for k := len(m.s.Net.Channels) - 1; k >= 0; k-- {
		if m.isGate(k) && m.since(k) >= days {
			oldest, days = k, m.since(k)
		}
	}
	if oldest < 0 {
		return told{nil, api.ErrNone}
	}
	return told{list(oldest), api.OK}
}

// ofGrants returns the answer of a question about the register.
func (m model) ofGrants(q api.CuratorQuestion, day int) (y told) {
	b := m.book()
	switch q.Kind {
	case api.CuratorWater:
		granted, free, e := grant.Water(b, day)
		return told{list(granted, free), e}
	case api.CuratorGrants:
		states, e := grant.States(b, day)
		for _, x := range states {
			y.numbers = append(y.numbers, int(x.Is), x.Person, x.Estate)
		}
		y.e = e
	case api.CuratorWaiting:
		events, e := grant.Waiting(b, day)
		for _, i := range events {
			y.numbers = append(y.numbers, b.Events[i].Person)
		}
		y.e = e
	case api.CuratorHolds:
		units, e := grant.Holds(b, q.Numbers[0], api.NozzleSystem(q.Numbers[1]), day)
		if e == api.OK {
			y.numbers = list(units.Low, units.High)
		}
		y.e = e
	}
	return y
}

// journal returns the journal.
func (m model) journal() string {
	all, _ := words()
	var lines strings.Builder
	for _, x := range m.made {
		lines.WriteString(joined(all[x.Kind], x.Numbers...) + "\n")
	}
	return lines.String()
}

// someEntry returns an entry that is formed, and perhaps goes; the kinds that seldom go are more of the choices.
func someEntry(r *rand.Rand, m model) api.CuratorEntry {
	kinds := list(1, 1, 2, 2, 3, 3, 3, 4, 4, 5, 6, 6, 7, 7, 8, 8, 9, 10, 10, 11, 11, 12, 13, 14, 15)
	s, k := m.s, api.CuratorKind(kinds[r.IntN(len(kinds))])
	person, estate := r.IntN(s.Register.Persons), r.IntN(len(s.Register.Owners)+2)
	states, _ := grant.States(m.book(), dayOf(m.standing()))
	row := s.Register.Table.Rows[r.IntN(len(s.Register.Table.Rows))]
	in, units := 1+r.IntN(2), list(row.First, row.First, 2*row.First, 3*row.First, row.Second, row.First+1)[r.IntN(6)]
	channel, point := r.IntN(len(s.Net.Channels)+1), r.IntN(len(s.Line.Gives)+1)
	n := list(0)
	switch k {
	case api.CuratorWait:
		n = list(list(0, 1, 1, 1, 2, 2, 3, 31, r.IntN(40), r.IntN(36501))[r.IntN(10)])
	case api.CuratorGive, api.CuratorAsk:
		n = list(person, in, units)
	case api.CuratorAttach:
		n = list(estate, in, units)
	case api.CuratorDie:
		n = list(person, r.IntN(s.Register.Persons))
	case api.CuratorSell:
		n = list(estate, person)
	case api.CuratorDivide:
		n = list(someGrant(r, states, func(x api.GrantState) bool { return x.Estate >= 0 && x.Units > units }), units, person)
	case api.CuratorJoin:
		n = list(estate, r.IntN(len(s.Register.Owners)+2))
	case api.CuratorRenew:
		n = list(someGrant(r, states, func(x api.GrantState) bool { return x.Is == api.GrantOpen }), person)
		if n[0] < len(states) && r.IntN(4) > 0 {
			n[1] = max(0, states[n[0]].Person)
		}
	case api.CuratorMove, api.CuratorClean:
		n = list(channel)
	case api.CuratorCount:
		// Of a line that gives a bit less than the upper counts have, so that some are possible together.
		low := max(0, 300-10*point-r.IntN(60))
		n = list(point, low, low+r.IntN(80))
	case api.CuratorInflow:
		n = list(r.IntN(210))
	case api.CuratorForget, api.CuratorUndo:
		n = nil
	}
	if len(n) > 0 && r.IntN(25) == 0 {
		n[r.IntN(len(n))] = list(0, 3, 9, 20, 400, 401, 36500)[r.IntN(7)]
	}
	return entry(k, n...)
}

// someGrant returns the number of some grant that is right, or 0.
func someGrant(r *rand.Rand, states []api.GrantState, right func(api.GrantState) bool) int {
	for _, i := range r.Perm(len(states)) {
		if right(states[i]) {
			return i
		}
	}
	return 0
}

// likely returns an entry that mostly goes: of some entries the first one that does.
func likely(r *rand.Rand, m model) api.CuratorEntry {
	x := someEntry(r, m)
	for range 4 {
		if m.goes(x) {
			break
		}
		x = someEntry(r, m)
	}
	return x
}
