package stone

import (
	"slices"

	"quinaria/api"
)

// textsOf returns all stones with a Text that is not empty.
func textsOf(l api.StoneLine) (stones []int) {
	for i, x := range l.Marks {
		if x.Text != "" {
			stones = append(stones, i)
		}
	}
	return stones
}

// without returns a line with some Texts left out.
func without(l api.StoneLine, stones []int) api.StoneLine {
	l.Marks = slices.Clone(l.Marks)
	for _, i := range stones {
		l.Marks[i].Text = ""
	}
	return l
}

// fewestWrong returns the fewest of some stones without whose Texts a line is possible.
func fewestWrong(l api.StoneLine, texts []int) (wrong []int) {
	// Fewer stones are tried before more, so that the first ones are the fewest.
search:
	for many := range len(texts) + 1 {
		for stones := range lists(texts, many) {
			if isPossible(without(l, stones)) {
				wrong = stones
				break search
			}
		}
	}
	return wrong
}
