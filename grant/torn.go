package grant

import (
	"iter"
	"slices"

	"quinaria/api"
)

// truth is a truth of a torn register, with the register that it makes of it.
type truth struct {
	api.GrantBook
	options []int
}

// truths goes through all truths of a torn register.
func truths(b api.GrantBook, torn []api.GrantTorn, known waters) iter.Seq[truth] {
	return func(yield func(truth) bool) {
		var options []int
		events := slices.Clone(b.Events)
		var goOn func() bool
		goOn = func() bool {
			k := len(options)
			if k == len(torn) {
				x := truth{b, slices.Clone(options)}
				x.Events = slices.Clone(events)
				return !isBook(x.GrantBook) || !isRight(x.GrantBook, known) || yield(x)
			}
			for i, option := range torn[k].Options {
				events[torn[k].Event] = option
				options = append(options, i)
				if !goOn() {
					return false
				}
				options = options[:k]
			}
			return true
		}
		goOn()
	}
}

// Truths returns how many truths a torn register has.
func Truths(b api.GrantBook, torn []api.GrantTorn) (int, api.Errno) {
	if !isBook(b) || !areTorn(b, torn) {
		return 0, api.ErrArg
	}
	found := 0
	for range truths(b, torn, waters{}) {
		found++
	}
	return found, api.OK
}

// May returns whether a person has a grant on a day.
func May(b api.GrantBook, torn []api.GrantTorn, grant, person, day int) (api.GrantWord, api.Errno) {
	if !isBook(b) || !areTorn(b, torn) || !isGrant(grant) || !isPerson(b, person) || !isDay(day) {
		return 0, api.ErrArg
	}
	var found api.GrantWord
	known := waters{}
search:
	for x := range truths(b, torn, known) {
		word := api.GrantNever
		if on(x.GrantBook, day, known).has(person, grant) {
			word = api.GrantSurely
		}
		switch found {
		case 0:
			found = word
		case word:
		default:
			found = api.GrantMay
			break search
		}
	}
	if found == 0 {
		return 0, api.ErrRule
	}
	return found, api.OK
}

// look is a place to look at, and how many truths are left then at most.
type look struct{ place, left int }

// Look returns the best place to look at, and how many truths are left.
func Look(b api.GrantBook, torn []api.GrantTorn) (int, int, api.Errno) {
	if !isBook(b) || !areTorn(b, torn) {
		return 0, 0, api.ErrArg
	}
	all := slices.Collect(truths(b, torn, waters{}))
	switch len(all) {
	case 0:
		return 0, 0, api.ErrRule
	case 1:
		return 0, 0, api.ErrNone
	}
	var looks []look
	for place := range torn {
		looks = append(looks, look{place, mostLeft(all, place)})
	}
	x, _ := best(looks, func(a, b look) bool { return a.left < b.left })
	return x.place, x.left, api.OK
}

// mostLeft returns how many of some truths are left at most, whichever option is found at a place.
func mostLeft(all []truth, place int) int {
	var left [api.GrantOptions]int
	for _, x := range all {
		left[x.options[place]]++
	}
	return slices.Max(left[:])
}
