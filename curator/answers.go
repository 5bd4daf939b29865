package curator

import (
	"slices"

	"quinaria/api"
	"quinaria/drought"
	"quinaria/gate"
	"quinaria/grant"
	"quinaria/leak"
)

// answer returns the answer of a question that has as many numbers as its kind.
func (s *standing) answer(q api.CuratorQuestion) ([]int, api.Errno) {
	answers := [...]func(s *standing, numbers []int) ([]int, api.Errno){
		api.CuratorDay:     (*standing).today,
		api.CuratorWater:   (*standing).water,
		api.CuratorGrants:  (*standing).grants,
		api.CuratorWaiting: (*standing).waiting,
		api.CuratorHolds:   (*standing).holds,
		api.CuratorGates:   (*standing).gates,
		api.CuratorMoves:   (*standing).moves,
		api.CuratorSince:   (*standing).since,
		api.CuratorOldest:  (*standing).oldest,
		api.CuratorTapped:  (*standing).tapped,
		api.CuratorNext:    (*standing).next,
		api.CuratorShares:  (*standing).shares,
		api.CuratorWhy:     (*standing).why,
		api.CuratorStands:  (*standing).stands,
	}
	return answers[q.Kind](s, q.Numbers)
}

// answered returns an answer, or nothing with an error.
func answered(e api.Errno, numbers ...int) ([]int, api.Errno) {
	if e != api.OK {
		return nil, e
	}
	return numbers, api.OK
}

func (s *standing) today([]int) ([]int, api.Errno) { return []int{s.day}, api.OK }

func (s *standing) water([]int) ([]int, api.Errno) {
	granted, free, e := grant.Water(s.Register, s.day)
	return answered(e, granted, free)
}

func (s *standing) grants([]int) (numbers []int, e api.Errno) {
	states, e := grant.States(s.Register, s.day)
	for _, x := range states {
		numbers = append(numbers, int(x.Is), x.Person, x.Estate)
	}
	return numbers, e
}

func (s *standing) waiting([]int) (persons []int, e api.Errno) {
	events, e := grant.Waiting(s.Register, s.day)
	for _, i := range events {
		persons = append(persons, s.Register.Events[i].Person)
	}
	return persons, e
}

func (s *standing) holds(n []int) ([]int, api.Errno) {
	units, e := grant.Holds(s.Register, n[0], api.NozzleSystem(n[1]), s.day)
	return answered(e, units.Low, units.High)
}

func (s *standing) gates([]int) ([]int, api.Errno) { return slices.Clone(s.Open), api.OK }

func (s *standing) moves(n []int) ([]int, api.Errno) { return gate.Moves(s.Net, s.Open, n) }

func (s *standing) since(n []int) ([]int, api.Errno) {
	day, some := s.cleaned[n[0]]
	if !some {
		return nil, api.ErrArg
	}
	return []int{s.day - day}, api.OK
}

func (s *standing) oldest([]int) ([]int, api.Errno) {
	oldest, some := best(gatesOf(s.Net), func(a, b int) bool { return s.cleaned[a] < s.cleaned[b] })
	if !some {
		return nil, api.ErrNone
	}
	return []int{oldest}, api.OK
}

// best returns the first of some things than which no other one is better, and whether there is one.
func best[T any](things []T, better func(a, b T) bool) (x T, some bool) {
	for _, y := range things {
		if !some || better(y, x) {
			x, some = y, true
		}
	}
	return x, some
}

func (s *standing) tapped([]int) (words []int, e api.Errno) {
	known, e := leak.Known(s.Line)
	for _, word := range known {
		words = append(words, int(word))
	}
	return words, e
}

func (s *standing) next(n []int) ([]int, api.Errno) {
	point, suspects, e := leak.Next(s.Line, n[0])
	return answered(e, point, suspects)
}

func (s *standing) shares([]int) ([]int, api.Errno) { return drought.Shares(s.Tree) }

func (s *standing) why(n []int) ([]int, api.Errno) {
	node, e := drought.Why(s.Tree, n[0])
	return answered(e, node)
}

func (s *standing) stands([]int) ([]int, api.Errno) { return s.numbers, api.OK }
