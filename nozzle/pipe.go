package nozzle

import (
	"iter"
	"slices"

	"quinaria/api"
)

// outlet is what gives water: a nozzle with a pipe of its own size, or a spout.
type outlet interface {
	gives(t api.NozzleTable) int
}

// nozzle is the number of a nozzle's row.
type nozzle int

func (n nozzle) gives(t api.NozzleTable) int { return t.Rows[n].Gives }

type spout api.NozzleSpout

func (s spout) gives(t api.NozzleTable) int {
	own, behind := nozzle(s.Nozzle).gives(t), nozzle(s.Pipe).gives(t)
	if behind <= own {
		return behind
	}
	return own + t.Draw*(behind-own)/100
}

func nozzlesOf(set []int) (outlets []outlet) {
	for _, r := range set {
		outlets = append(outlets, nozzle(r))
	}
	return outlets
}

// flow returns what outlets give together.
func flow(t api.NozzleTable, outlets []outlet) int {
	var cups []int
	for _, x := range outlets {
		cups = append(cups, x.gives(t))
	}
	return sum(cups...)
}

// Flow returns what spouts give together.
func Flow(t api.NozzleTable, spouts []api.NozzleSpout) (int, api.Errno) {
	var outlets []outlet
	for _, x := range spouts {
		outlets = append(outlets, spout(x))
	}
	if !isTable(t) || !areOutlets(t, outlets) {
		return 0, api.ErrArg
	}
	return flow(t, outlets), api.OK
}

// piped goes through all lists of a nozzle, or of a spout with a wider pipe,
// for each nozzle of a set, with at most so many spouts.
func piped(t api.NozzleTable, set []int, most int) iter.Seq[[]outlet] {
	return func(yield func([]outlet) bool) {
		var outlets []outlet
		var goOn func(left int) bool
		goOn = func(left int) bool {
			k := len(outlets)
			if k == len(set) {
				return yield(slices.Clone(outlets))
			}
			outlets = append(outlets, nozzle(set[k]))
			if !goOn(left) {
				return false
			}
			if left > 0 {
				for pipe := range wider(t, set[k]) {
					outlets[k] = spout{Nozzle: set[k], Pipe: pipe}
					if !goOn(left - 1) {
						return false
					}
				}
			}
			outlets = outlets[:k]
			return true
		}
		goOn(most)
	}
}

// wider goes through all rows that give more than a row.
func wider(t api.NozzleTable, r int) iter.Seq[int] {
	return func(yield func(int) bool) {
		for pipe := range len(t.Rows) {
			if t.Rows[pipe].Gives > t.Rows[r].Gives && !yield(pipe) {
				return
			}
		}
	}
}

// truths goes through all that can be true of a set of nozzles that was counted.
func truths(t api.NozzleTable, set []int, count api.Span, most int) iter.Seq[[]outlet] {
	return which(piped(t, set, most), func(outlets []outlet) bool { return isWithin(count, flow(t, outlets)) })
}

// Suspects returns which nozzles have a wider pipe.
func Suspects(t api.NozzleTable, set []int, count api.Span, most int) ([]api.NozzleWord, api.Errno) {
	if !isTable(t) || !isSet(t, set) || !isCount(count) || !isFrom(0, api.NozzleWide, most) {
		return nil, api.ErrArg
	}
	found, widened := 0, make([]int, len(set))
	for truth := range truths(t, set, count, most) {
		found++
		for k, x := range truth {
			if isWidened(x) {
				widened[k]++
			}
		}
	}
	if found == 0 {
		return nil, api.ErrRule
	}
	words := make([]api.NozzleWord, len(set))
	for k, n := range widened {
		words[k] = wordOf(n, found)
	}
	return words, api.OK
}

// isWidened reports whether an outlet of a truth has a wider pipe.
func isWidened(x outlet) bool {
	switch x.(type) {
	case spout:
		return true
	}
	return false
}

// wordOf returns what is known of something that is so in n of the truths that were found.
func wordOf(n, found int) api.NozzleWord {
	switch n {
	case 0:
		return api.NozzleNever
	case found:
		return api.NozzleSurely
	}
	return api.NozzleMay
}

// Widened returns the least number of wider pipes.
func Widened(t api.NozzleTable, set []int, count api.Span) (int, api.Errno) {
	if !isTable(t) || !isSet(t, set) || !isCount(count) {
		return 0, api.ErrArg
	}
	for most := range api.NozzleWide + 1 {
		if _, some := first(truths(t, set, count, most)); some {
			return most, api.OK
		}
	}
	return 0, api.ErrNone
}
