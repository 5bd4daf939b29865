package stone

import (
	"iter"
	"strconv"

	"quinaria/api"
)

// numberSet is some numbers of a stone: for each number, how many of them are not greater.
type numberSet []int

// numbersThat returns those numbers that are right.
func numbersThat(right func(number int) bool) numberSet {
	n := make(numberSet, api.StoneNumber+1)
	for before := range api.StoneNumber {
		number := before + 1
		n[number] = n[before]
		if right(number) {
			n[number]++
		}
	}
	return n
}

// has reports whether a number from low to high is one of them.
func (n numberSet) has(low, high int) bool {
	low, high = max(low, 1), min(high, api.StoneNumber)
	return low <= high && n[low-1] < n[high]
}

// from goes through those of them that are from low to high.
func (n numberSet) from(low, high int) iter.Seq[int] {
	return func(yield func(int) bool) {
		for number := max(low, 1); number <= min(high, api.StoneNumber); number++ {
			if n.has(number, number) && !yield(number) {
				return
			}
		}
	}
}

// turn is what the number of a stone and its old number are together.
type turn int

// fresh returns the number of a stone in the numbering that is not old.
func (t turn) fresh(number int) int { return number }

// old returns the old number of a stone.
func (t turn) old(number int) int { return int(t) - number }

// reading is how a number is read: in one of both numberings.
type reading int

const (
	freshReading reading = iota
	oldReading
	readings
)

// readingOf returns how the number of a mark is read.
func readingOf(x api.StoneMark) reading {
	if x.Old {
		return oldReading
	}
	return freshReading
}

// agrees reports whether a mark can be left on a stone with a number.
func (t turn) agrees(x api.StoneMark, number int) bool {
	reads := [readings]func(turn, int) int{freshReading: turn.fresh, oldReading: turn.old}
	inscribed := reads[readingOf(x)](t, number)
	return x.Text == "" || isNumber(inscribed) && isLeft(x.Text, inscribed)
}

// isLeft reports whether a Text can be left of a number.
func isLeft(text string, number int) bool {
	digits := strconv.Itoa(number)
	if len(text) != len(digits) {
		return false
	}
	for i, c := range text {
		if c != lost && c != rune(digits[i]) {
			return false
		}
	}
	return true
}
