package curator

import (
	"slices"

	"quinaria/api"
)

// entry is an entry of one kind.
type entry interface {
	// happen changes what stands, whether the entry goes or not.
	happen(s *standing)
}

type (
	wait   struct{ days int }
	event  api.GrantEvent // its Day is that of the desk when it happens
	move   struct{ gate int }
	clean  struct{ gate int }
	count  api.LeakCount
	forget struct{}
	inflow struct{ cups int }
	undo   struct{}
)

// entryOf returns an entry that is formed.
func entryOf(x api.CuratorEntry) entry {
	n := x.Numbers
	switch x.Kind {
	case api.CuratorWait:
		return wait{n[0]}
	case api.CuratorMove:
		return move{n[0]}
	case api.CuratorClean:
		return clean{n[0]}
	case api.CuratorCount:
		return count{Point: n[0], Low: n[1], High: n[2]}
	case api.CuratorForget:
		return forget{}
	case api.CuratorInflow:
		return inflow{n[0]}
	case api.CuratorUndo:
		return undo{}
	}
	return eventOf(x)
}

// eventOf returns the event of an entry. Both layers have the kinds of events in the same order.
func eventOf(x api.CuratorEntry) event {
	n := x.Numbers
	y := event{Kind: api.GrantGive + api.GrantKind(x.Kind-api.CuratorGive)}
	switch x.Kind {
	case api.CuratorGive, api.CuratorAsk:
		y.Person, y.System, y.Units = n[0], api.NozzleSystem(n[1]), n[2]
	case api.CuratorAttach:
		y.Estate, y.System, y.Units = n[0], api.NozzleSystem(n[1]), n[2]
	case api.CuratorDie:
		y.Person, y.Other = n[0], n[1]
	case api.CuratorSell:
		y.Estate, y.Person = n[0], n[1]
	case api.CuratorDivide:
		y.Grant, y.Units, y.Person = n[0], n[1], n[2]
	case api.CuratorJoin:
		y.Estate, y.Other = n[0], n[1]
	case api.CuratorRenew:
		y.Grant, y.Person = n[0], n[1]
	}
	return y
}

func (x wait) happen(s *standing) { s.day += x.days }

func (x event) happen(s *standing) {
	x.Day = s.day
	s.Register.Events = append(s.Register.Events, api.GrantEvent(x))
}

func (x move) happen(s *standing) {
	i, open := slices.BinarySearch(s.Open, x.gate)
	if open {
		s.Open = slices.Delete(s.Open, i, i+1)
	} else {
		s.Open = slices.Insert(s.Open, i, x.gate)
	}
}

func (x clean) happen(s *standing) { s.cleaned[x.gate] = s.day }

func (x count) happen(s *standing) { s.Line.Counts = append(s.Line.Counts, api.LeakCount(x)) }

func (forget) happen(s *standing) { s.Line.Counts = nil }

func (x inflow) happen(s *standing) { s.Tree.Inflow = x.cups }

// happen changes nothing: what stands is made without the entry that is taken back.
func (undo) happen(*standing) {}
