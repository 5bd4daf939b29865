package gate

import (
	"iter"
	"slices"

	"quinaria/api"
)

// lists goes through all lists of some of these numbers, which are in
// increasing order as those of the lists are, in lexicographic order.
func lists(numbers []int) iter.Seq[[]int] {
	return func(yield func([]int) bool) {
		var list []int
		var goOn func(from int) bool
		goOn = func(from int) bool {
			if !yield(slices.Clone(list)) {
				return false
			}
			for i := from; i < len(numbers); i++ {
				list = append(list, numbers[i])
				if !goOn(i + 1) {
					return false
				}
				list = list[:len(list)-1]
			}
			return true
		}
		goOn(0)
	}
}

// those goes through those lists of some numbers that are right.
func those(numbers []int, right func(list []int) bool) iter.Seq[[]int] {
	return func(yield func([]int) bool) {
		for list := range lists(numbers) {
			if right(list) && !yield(list) {
				return
			}
		}
	}
}

// shortest returns the first of the shortest lists of some numbers that are right, and whether there is one.
func shortest(numbers []int, right func(list []int) bool) ([]int, bool) {
	return best(those(numbers, right), func(a, b []int) bool { return len(a) < len(b) })
}

// longest returns the first of the longest lists of some numbers that are right, and whether there is one.
func longest(numbers []int, right func(list []int) bool) ([]int, bool) {
	return best(those(numbers, right), func(a, b []int) bool { return len(a) > len(b) })
}

// best returns the first of some things than which no other one is better, and whether there is one.
func best[T any](things iter.Seq[T], better func(a, b T) bool) (x T, some bool) {
	for y := range things {
		if !some || better(y, x) {
			x, some = y, true
		}
	}
	return x, some
}

// orNone returns a list, or ErrNone if there is none.
func orNone(list []int, some bool) ([]int, api.Errno) {
	if !some {
		return nil, api.ErrNone
	}
	return list, api.OK
}

func sum(cups ...int) int {
	total := 0
	for _, n := range cups {
		total += n
	}
	return total
}

// must gives up with a value if something is not right.
func must(right bool, otherwise any) {
	if !right {
		panic(otherwise)
	}
}

// attempt returns the error with which a part of the work gives up, or OK if it does not.
func attempt(work func()) (e api.Errno) {
	defer func() {
		switch recover().(type) {
		case dry:
			e = api.ErrRule
		case noText:
			e = api.ErrText
		}
	}()
	work()
	return api.OK
}
