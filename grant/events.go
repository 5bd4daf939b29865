package grant

import (
	"slices"

	"quinaria/api"
)

// event is an event of one kind.
type event interface {
	// happen changes what stands, or gives up if the event does not go.
	happen(s *standing)
	// numbers returns the numbers of its line in a text.
	numbers() []int
}

type (
	give   api.GrantEvent
	attach api.GrantEvent
	die    api.GrantEvent
	sell   api.GrantEvent
	divide api.GrantEvent
	join   api.GrantEvent
	renew  api.GrantEvent
	ask    api.GrantEvent
)

// eventOf returns an event by its kind, or nil if there is no such kind.
func eventOf(x api.GrantEvent) event {
	switch x.Kind {
	case api.GrantGive:
		return give(x)
	case api.GrantAttach:
		return attach(x)
	case api.GrantDie:
		return die(x)
	case api.GrantSell:
		return sell(x)
	case api.GrantDivide:
		return divide(x)
	case api.GrantJoin:
		return join(x)
	case api.GrantRenew:
		return renew(x)
	case api.GrantAsk:
		return ask(x)
	}
	return nil
}

func (x give) happen(s *standing) {
	must(s.lives[x.Person], refusal{})
	s.allot(amount{x.System, x.Units}, x.Person, none)
}

func (x attach) happen(s *standing) {
	must(s.exists(x.Estate), refusal{})
	s.allot(amount{x.System, x.Units}, none, x.Estate)
}

// allot adds a grant that nobody asked for, or gives up if that does not go.
func (s *standing) allot(x amount, person, estate int) {
	cups := s.water(x)
	must(cups > 0 && cups <= s.free() && len(s.waiting) == 0, refusal{})
	s.add(x, person, estate)
}

func (x die) happen(s *standing) {
	must(s.lives[x.Person] && s.lives[x.Other] && x.Person != x.Other, refusal{})
	s.lives[x.Person] = false
	for i, owner := range s.estates {
		if owner == x.Person {
			s.estates[i] = x.Other
		}
	}
	s.waiting = slices.DeleteFunc(s.waiting, func(i int) bool { return s.Events[i].Person == x.Person })
	for i, g := range s.grants {
		switch {
		case g.person != x.Person:
		case g.is == api.GrantOpen:
			s.end(i, x.Day)
		default:
			g.is, g.person, g.last = api.GrantOpen, x.Other, x.Day+s.Term
			s.grants[i] = g
		}
	}
}

func (x sell) happen(s *standing) {
	must(s.exists(x.Estate) && s.lives[x.Person] && s.estates[x.Estate] != x.Person, refusal{})
	s.estates[x.Estate] = x.Person
}

func (x divide) happen(s *standing) {
	must(x.Grant < len(s.grants) && s.lives[x.Person], refusal{})
	whole := s.grants[x.Grant]
	must(whole.estate != none && whole.units > x.Units, refusal{})
	part, rest := amount{whole.system, x.Units}, amount{whole.system, whole.units - x.Units}
	cups, left := s.water(part), s.water(rest)
	must(cups > 0 && left > 0 && cups+left-s.water(whole.amount) <= s.free(), refusal{})
	s.grants[x.Grant].amount = rest
	s.estates = append(s.estates, x.Person)
	s.add(part, none, len(s.estates)-1)
}

func (x join) happen(s *standing) {
	must(s.exists(x.Estate) && s.exists(x.Other) && x.Estate != x.Other, refusal{})
	must(s.estates[x.Estate] == s.estates[x.Other], refusal{})
	for i, g := range s.grants {
		if g.estate == x.Other {
			s.grants[i].estate = x.Estate
		}
	}
	s.estates[x.Other] = none
}

func (x renew) happen(s *standing) {
	must(x.Grant < len(s.grants), refusal{})
	g := s.grants[x.Grant]
	must(g.is == api.GrantOpen && g.person == x.Person, refusal{})
	s.grants[x.Grant].is = api.GrantStands
}

func (x ask) happen(s *standing) {
	must(s.lives[x.Person] && s.water(x.amount()) > 0, refusal{})
	s.waiting = append(s.waiting, s.happened)
}

func (x ask) amount() amount { return amount{x.System, x.Units} }
