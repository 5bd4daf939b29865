package stone

import (
	"iter"
	"math"
	"slices"

	"quinaria/api"
)

// lists goes through all lists of so many of these numbers, which are in
// increasing order as those of the lists are, in lexicographic order.
func lists(numbers []int, many int) iter.Seq[[]int] {
	return func(yield func([]int) bool) {
		var list []int
		var goOn func(from int) bool
		goOn = func(from int) bool {
			if len(list) == many {
				return yield(slices.Clone(list))
			}
			for i := from; i < len(numbers); i++ {
				list = append(list, numbers[i])
				if !goOn(i + 1) {
					return false
				}
				list = list[:len(list)-1]
			}
			return true
		}
		goOn(0)
	}
}

// best returns the first of some things with the least cost, and this cost.
func best[T any](things []T, cost func(T) int) (x T, least int) {
	least = math.MaxInt
	for _, y := range things {
		if c := cost(y); c < least {
			x, least = y, c
		}
	}
	return x, least
}

func sum(days ...int) int {
	total := 0
	for _, n := range days {
		total += n
	}
	return total
}

// must gives up with a value if something is not right.
func must(right bool, otherwise any) {
	if !right {
		panic(otherwise)
	}
}

// attempt returns the error with which a part of the work gives up, or OK if it does not.
func attempt(work func()) (e api.Errno) {
	defer func() {
		switch recover().(type) {
		case tooMany:
			e = api.ErrOpen
		case noText:
			e = api.ErrText
		}
	}()
	work()
	return api.OK
}
