package grant

import (
	"slices"

	"quinaria/api"
)

// none is what is there in place of a person or an estate if there is none.
const none = -1

// grant is a grant as it stands. One of an estate has no person of its own, so
// that it goes with the estate.
type grant struct {
	amount
	is     api.GrantIs
	person int // its heir if it is open
	estate int
	last   int // the last day on which the heir can renew it, if it is open
}

// fall is a grant that fell back on a day.
type fall struct{ grant, day int }

// standing is a register as it stands, after those of its events that happened.
type standing struct {
	api.GrantBook
	known    waters
	happened int   // how many events
	waiting  []int // the events by which those asked who wait
	lives    []bool
	estates  []int // their owners
	grants   []grant
	fell     []fall
}

// refusal is what following a register gives up with: an event does not go.
type refusal struct{}

// beginning returns a register as it stands before all of its events.
func beginning(b api.GrantBook, known waters) *standing {
	s := &standing{GrantBook: b, known: known, estates: slices.Clone(b.Owners), lives: make([]bool, b.Persons)}
	for person := range b.Persons {
		s.lives[person] = true
	}
	return s
}

// firstWrong returns the number of the first event that does not go, or how many events there are if all go.
func firstWrong(b api.GrantBook, known waters) int {
	s := beginning(b, known)
	attempt(func() {
		for range b.Events {
			s.step()
		}
	})
	return s.happened
}

// isRight reports whether all events of a register go.
func isRight(b api.GrantBook, known waters) bool { return firstWrong(b, known) == len(b.Events) }

// on returns a register, which is right, as it stands on a day.
func on(b api.GrantBook, day int, known waters) *standing {
	s := beginning(b, known)
	for s.happened < len(b.Events) && b.Events[s.happened].Day <= day {
		s.step()
	}
	s.pass(day)
	return s
}

// step lets the next event happen, or gives up if it does not go.
func (s *standing) step() {
	x := s.Events[s.happened]
	s.pass(x.Day)
	eventOf(x).happen(s)
	s.serve()
	s.happened++
}

// pass lets the days up to one come: all open grants end whose last day is before it.
func (s *standing) pass(day int) {
	for {
		i, some := best(s.open(), func(a, b int) bool { return s.grants[a].last < s.grants[b].last })
		if !some || s.grants[i].last >= day {
			return
		}
		s.end(i, s.grants[i].last+1)
		s.serve()
	}
}

// open returns the numbers of all open grants.
func (s *standing) open() (numbers []int) {
	for i, g := range s.grants {
		if g.is == api.GrantOpen {
			numbers = append(numbers, i)
		}
	}
	return numbers
}

// end lets a grant end, and fall back on a day.
func (s *standing) end(i, day int) {
	s.grants[i].is, s.grants[i].person = api.GrantEnded, none
	s.fell = append(s.fell, fall{i, day})
}

// serve gives those who wait what they asked for, as long as it is free for the first one.
func (s *standing) serve() {
	for len(s.waiting) > 0 {
		x := ask(s.Events[s.waiting[0]])
		if s.water(x.amount()) > s.free() {
			return
		}
		s.waiting = s.waiting[1:]
		s.add(x.amount(), x.Person, none)
	}
}

// add adds a grant of a person, or of an estate.
func (s *standing) add(x amount, person, estate int) {
	s.grants = append(s.grants, grant{amount: x, is: api.GrantStands, person: person, estate: estate})
}

// water returns the water of an amount, or 0 if it has none.
func (s *standing) water(x amount) int { return s.known.of(s.Table, x) }

func (s *standing) granted() (cups int) {
	for _, g := range s.grants {
		if g.is != api.GrantEnded {
			cups += s.water(g.amount)
		}
	}
	return cups
}

func (s *standing) free() int { return s.Supply - s.granted() }

// exists reports whether there is an estate with a number still.
func (s *standing) exists(estate int) bool {
	return estate < len(s.estates) && s.estates[estate] != none
}

// has reports whether there is a grant with a number, and a person has it.
func (s *standing) has(person, i int) bool {
	return i < len(s.grants) && s.grants[i].is == api.GrantStands && s.holder(s.grants[i]) == person
}

// holder returns whose a grant is.
func (s *standing) holder(g grant) int {
	if g.estate != none {
		return s.estates[g.estate]
	}
	return g.person
}

func (s *standing) state(g grant) api.GrantState {
	return api.GrantState{Is: g.is, Person: s.holder(g), Estate: g.estate, System: g.system, Units: g.units}
}

// best returns the first of some things than which no other one is better, and whether there is one.
func best[T any](things []T, better func(a, b T) bool) (x T, some bool) {
	for _, y := range things {
		if !some || better(y, x) {
			x, some = y, true
		}
	}
	return x, some
}

// must gives up with a value if something is not right.
func must(right bool, otherwise any) {
	if !right {
		panic(otherwise)
	}
}

// attempt returns the error with which something gives up, or OK if it does not.
func attempt(something func()) (e api.Errno) {
	defer func() {
		switch recover().(type) {
		case refusal:
			e = api.ErrRule
		case noText:
			e = api.ErrText
		}
	}()
	something()
	return api.OK
}
