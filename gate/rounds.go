package gate

import (
	"iter"
	"slices"

	"quinaria/api"
)

// rounding looks for rounds for channels to empty, each of which can be emptied alone.
type rounding struct {
	out []int
	// open is the positions of a round in which nothing is emptied.
	open positions
	// feeding is whether the network is surely fed, for the positions of each round that could be.
	feeding map[positions]bool
}

func roundsFor(n api.GateNet, out []int) rounding {
	r := rounding{out, emptied(n, nil).isOpen, map[positions]bool{}}
	for some := range lists(out) {
		o := emptied(n, some)
		r.feeding[o.isOpen] = o.isFed(low)
	}
	return r
}

// best returns the best rounds.
func (r rounding) best() (best []int) {
	// Fewer rounds are tried before more, so that the first ones are the best.
search:
	for many := range len(r.out) + 1 {
		for rounds := range r.upTo(many) {
			best = rounds
			break search
		}
	}
	return best
}

// upTo goes through all rounds, at most so many, in lexicographic order.
func (r rounding) upTo(many int) iter.Seq[[]int] {
	return func(yield func([]int) bool) {
		var numbers []int
		rounds := slices.Repeat([]positions{r.open}, many)
		var goOn func(begun int) bool
		goOn = func(begun int) bool {
			k := len(numbers)
			if k == len(r.out) {
				return yield(slices.Clone(numbers))
			}
			for i := range min(begun+1, many) {
				before := rounds[i]
				numbers, rounds[i] = append(numbers, i), before.moved(r.out[k:k+1])
				if r.feeding[rounds[i]] && !goOn(max(begun, i+1)) {
					return false
				}
				numbers, rounds[i] = numbers[:k], before
			}
			return true
		}
		goOn(0)
	}
}
