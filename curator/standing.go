package curator

import (
	"iter"
	"slices"

	"quinaria/api"
	"quinaria/drought"
	"quinaria/grant"
	"quinaria/leak"
)

// standing is what stands at a desk: the suite as the entries that stand left it.
type standing struct {
	api.CuratorSuite
	day     int
	cleaned map[int]int // the day on which each channel with a gate was cleaned last
	numbers []int       // those of the entries that stand
}

// beginning returns what stands at a desk without entries.
func beginning(s api.CuratorSuite) *standing {
	cleaned := map[int]int{}
	for _, k := range gatesOf(s.Net) {
		cleaned[k] = 0
	}
	return &standing{CuratorSuite: copied(s), cleaned: cleaned}
}

// stand returns what stands at a desk. No entry is asked again whether it goes:
// the same ones stood before it as when it was made.
func (d *Desk) stand() *standing {
	s := beginning(*d.suite)
	for i, x := range standingOf(d.entries) {
		entryOf(x).happen(s)
		s.numbers = append(s.numbers, i)
	}
	return s
}

// standingOf goes through all entries that stand, with their numbers.
func standingOf(entries []api.CuratorEntry) iter.Seq2[int, api.CuratorEntry] {
	return func(yield func(int, api.CuratorEntry) bool) {
	search:
		for i, x := range entries {
			if x.Kind == api.CuratorUndo {
				continue
			}
			after := 0 // how many entries behind it stood, undo by undo
			for _, y := range entries[i+1:] {
				switch {
				case y.Kind != api.CuratorUndo:
					after++
				case after > 0:
					after--
				default:
					continue search
				}
			}
			if !yield(i, x) {
				return
			}
		}
	}
}

// refusal is what an entry that does not go gives up with.
type refusal struct{}

// enter makes an entry, or gives up if it does not go. What stands is of no use then.
func (s *standing) enter(x entry) {
	x.happen(s)
	if !s.allows(x) {
		panic(refusal{})
	}
}

// allows reports whether an entry goes that has just happened.
func (s *standing) allows(x entry) bool {
	switch x := x.(type) {
	case wait:
		return x.days >= 1 && s.day <= api.GrantDays
	case event:
		_, e := grant.Wrong(s.Register)
		return e == api.ErrNone
	case move:
		return isFed(s.CuratorSuite)
	case clean:
		return slices.Contains(gatesOf(s.Net), x.gate) && !slices.Contains(s.Open, x.gate)
	case count:
		possible, _ := leak.Possible(s.Line)
		return possible
	case inflow:
		return drought.Check(s.Tree) == api.OK
	case undo:
		return len(s.numbers) > 0
	}
	return true
}

// attempt returns the error with which a part of the work gives up, or OK if it does not.
func attempt(work func()) (e api.Errno) {
	defer func() {
		if recover() != nil {
			e = api.ErrRule
		}
	}()
	work()
	return api.OK
}
