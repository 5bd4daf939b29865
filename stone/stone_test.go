package stone_test

import (
	"math/rand/v2"
	"slices"
	"testing"

	"quinaria/api"
	"quinaria/stone"
)

const never, may, surely = api.StoneNever, api.StoneMay, api.StoneSurely

// P9.1: lines of all kinds are as defined, up to all limits, and each of the wrong ones is not.
func TestCheck(t *testing.T) {
	right := []api.StoneLine{
		line("- -", 1, 1, 2, 2, 1, 1), line("- -", 500, 500, 200, 200, 50000, 50000), line("- -", 1, 500, 190, 200, 1, 50000), line("- -", 7, 8, 2, 12, 9, 10), line("0 00 01 ?0 0? 99 ? ??", append(list(3, 4, 50, 55), slices.Repeat(list(7, 8), 7)...)...),
		line("o0 o00 o01 o?0 o0? o99 o? o-", append(list(3, 4, 50, 55), slices.Repeat(list(7, 8), 7)...)...),
	}
	for i, l := range append(ourLines(), right...) {
		if e := stone.Check(l); e != api.OK {
			t.Error(i, l, e)
		}
	}
	for i, l := range wrongLines() {
		if e := stone.Check(l); e != api.ErrArg {
			t.Error(i, l, e)
		}
	}
}

// P9.1: the chapter's truths, and each way in which a truth does not fit.
func TestFits(t *testing.T) {
	lost := line("? o?? -", 90, 110, 50, 52, 95, 105, 290, 310)
	for i, x := range []struct {
		l       api.StoneLine
		numbers []int
		turn    int
		want    bool
		e       api.Errno
	}{
		{lineA(), list(7, 8, 11, 13), 50, true, api.OK}, {lineA(), list(7, 8, 11, 14), 52, true, api.OK}, {lineA(), list(7, 8, 11, 13), 49, false, api.OK}, {lineA(), list(7, 8, 11, 13), 53, false, api.OK},
		{lineA(), list(7, 8, 11, 13), -huge - 1, false, api.OK}, {lineA(), list(7, 8, 11, 13), huge, false, api.OK}, {lineA(), list(7, 8, 11, 13), 0, false, api.OK}, {lineA(), list(6, 8, 11, 13), 50, false, api.OK},
		{lineA(), list(7, 9, 11, 13), 50, false, api.OK}, {lineA(), list(7, 8, 12, 13), 50, false, api.OK}, {lineA(), list(7, 8, 12, 14), 50, false, api.OK}, {lineA(), list(7, 8, 11, 12), 50, false, api.OK}, {lineA(), list(7, 8, 11, 15), 50, false, api.OK},
		{lineB(), list(7, 8, 11, 13), 50, false, api.OK}, {lineB(), list(8, 9, 12, 14), 50, false, api.OK}, {withText(lineB(), 0, "8"), list(8, 9, 12, 14), 50, true, api.OK},
		{lineA(), list(7, 8, 11), 50, false, api.ErrArg}, {lineA(), list(7, 8, 11, 13, 14), 50, false, api.ErrArg}, {lineA(), nil, 50, false, api.ErrArg}, {lineA(), list(0, 8, 11, 13), 50, false, api.ErrArg}, {lineA(), list(-1, 8, 11, 13), 50, false, api.ErrArg},
		{lineA(), list(7, 8, 11, 100), 50, false, api.ErrArg}, {lineA(), list(7, 8, 11, huge), 50, false, api.ErrArg}, {lineA(), list(-huge-1, 8, 11, huge), 50, false, api.ErrArg}, {lineA(), list(7, 7, 11, 13), 50, false, api.ErrArg},
		{lineA(), list(7, 8, 13, 11), 50, false, api.ErrArg}, {lineA(), list(8, 7, 11, 13), 50, false, api.ErrArg}, {lineA(), list(1, 2, 3, 99), 50, false, api.OK}, {lineA(), list(7, 8, 13, 11), 77, false, api.ErrArg}, {api.StoneLine{}, nil, 0, false, api.ErrArg},
		{lost, list(4, 5, 8), 50, true, api.OK}, {lost, list(9, 10, 13), 52, true, api.OK}, {lost, list(10, 11, 14), 52, false, api.OK}, {line("- o?", 5, 5, 10, 12, 5, 5), list(9, 10), 10, false, api.OK}, {line("- o?", 5, 5, 10, 12, 5, 5), list(9, 10), 11, true, api.OK},
		{line("- o?", 5, 5, 10, 12, 5, 5), list(10, 11), 10, false, api.OK}, {line("- o-", 5, 5, 10, 12, 5, 5), list(10, 11), 10, true, api.OK}, {line("o99 -", 5, 5, 100, 102, 5, 5), list(1, 2), 100, true, api.OK}, {line("o?? -", 5, 5, 100, 102, 5, 5), list(1, 2), 101, false, api.OK},
		{line("o-- -", 5, 5, 100, 102, 5, 5), list(1, 2), 101, false, api.ErrArg}, {line("0 -", 5, 5, 100, 102, 5, 5), list(1, 2), 101, false, api.OK}, {line("01 -", 5, 5, 100, 102, 5, 5), list(1, 2), 101, false, api.OK}, {line("?1 -", 5, 5, 100, 102, 5, 5), list(1, 2), 101, false, api.OK},
		{line("?? -", 5, 5, 100, 102, 5, 5), list(9, 10), 101, false, api.OK}, {line("?? -", 5, 5, 100, 102, 5, 5), list(10, 11), 101, true, api.OK}, {line("? -", 5, 5, 100, 102, 5, 5), list(9, 10), 101, true, api.OK}, {line("? -", 5, 5, 100, 102, 5, 5), list(10, 11), 101, false, api.OK},
	} {
		if y, e := stone.Fits(x.l, api.StoneTruth{Numbers: x.numbers, Turn: x.turn}); y != x.want || e != x.e {
			t.Error(i, x, y, e)
		}
	}
	for i, l := range wrongLines() {
		if y, e := stone.Fits(l, api.StoneTruth{Numbers: list(7, 8, 11, 13), Turn: 50}); y || e != api.ErrArg {
			t.Error(i, l, y, e)
		}
	}
}

// P9.1: any Text agrees just with the numbers that can be read so, in either numbering.
func TestFitsOfTexts(t *testing.T) {
	const characters = "0123456789?"
	for _, a := range characters {
		for _, text := range append(textsBehind(string(a), characters), string(a)) {
			for _, old := range []bool{false, true} {
				l := line("- -", 1, 1, 110, 110, 1, 1)
				l.Marks[0] = api.StoneMark{Text: text, Old: old}
				for n := 1; n < 99; n++ {
					if y, e := stone.Fits(l, api.StoneTruth{Numbers: list(n, n+1), Turn: 110}); y != agrees(l.Marks[0], n, 110) || e != api.OK {
						t.Error(text, old, n, y, e)
					}
				}
			}
		}
	}
}

// textsBehind returns texts with one more of some characters.
func textsBehind(text, characters string) (texts []string) {
	for _, c := range characters {
		texts = append(texts, text+string(c))
	}
	return texts
}

// P9.1: a truth fits just if what the chapter asks for holds, whatever bounds the steps and the gaps have.
func TestFitsOfGaps(t *testing.T) {
	r := rand.New(rand.NewPCG(9, 1))
	fit := 0
	for range 8000 {
		l := misread(r, someLine(r, 2+r.IntN(3), r.IntN(3)), r.IntN(2))
		truth := someTruth(r, len(l.Marks))
		truth.Turn = l.Turn.Low - 1 + r.IntN(l.Turn.High-l.Turn.Low+3)
		if truths, few := truthsOf(l); few && len(truths) > 0 && r.IntN(2) == 0 {
			truth.Numbers = truths[r.IntN(len(truths))].Numbers
		}
		want := isTruth(l, truth)
		if y, e := stone.Fits(l, truth); y != want || e != api.OK {
			t.Error(l, truth, y, e)
		}
		if want {
			fit++
		}
	}
	if fit < 1000 {
		t.Error("few fit:", fit)
	}
}

// P9.2: the chapter's numberings, and edges.
func TestNumberings(t *testing.T) {
	for i, x := range []struct {
		l     api.StoneLine
		all   [][]int
		spans []api.Span
		known []int
		e     api.Errno
	}{
		{lineA(), lists(list(7, 8, 11, 13), list(7, 8, 11, 14)), spans(7, 7, 8, 8, 11, 11, 13, 14), list(7, 8, 11, 0), api.OK},
		{lineB(), nil, nil, nil, api.ErrRule},
		{withText(lineB(), 0, "8"), lists(list(8, 9, 12, 14), list(8, 9, 12, 15)), spans(8, 8, 9, 9, 12, 12, 14, 15), list(8, 9, 12, 0), api.OK},
		{smallLine(), lists(list(4, 5)), spans(4, 4, 5, 5), list(4, 5), api.OK},
		{line("- -", 1, 1, 2, 2, 98, 98), lists(list(1, 99)), spans(1, 1, 99, 99), list(1, 99), api.OK},
		{line("- -", 1, 1, 2, 2, 97, 98), lists(list(1, 98), list(1, 99), list(2, 99)), spans(1, 2, 98, 99), list(0, 0), api.OK},
		{line("- -", 1, 1, 2, 12, 97, 98), lists(list(1, 98), list(1, 99), list(2, 99)), spans(1, 2, 98, 99), list(0, 0), api.OK},
		{line("- -", 1, 1, 2, 2, 99, 99), nil, nil, nil, api.ErrRule},
		{line("- -", 1, 1, 2, 2, 50000, 50000), nil, nil, nil, api.ErrRule},
		{line("- -", 90, 90, 2, 2, 91, 179), nil, nil, nil, api.ErrRule},
		{line("- -", 90, 90, 2, 2, 1, 89), nil, nil, nil, api.ErrRule},
		{line("9? -", 90, 90, 2, 2, 720, 800), lists(list(90, 98), list(91, 99)), spans(90, 91, 98, 99), list(0, 0), api.OK},
		{line("- o9?", 5, 6, 100, 101, 30, 31), lists(list(1, 6), list(1, 7), list(2, 7), list(2, 8), list(3, 8), list(3, 9), list(4, 9), list(4, 10), list(5, 10), list(5, 11), list(6, 11)), spans(1, 6, 6, 11), list(0, 0), api.OK},
		{line("o1 -", 1, 1, 2, 2, 1, 1), lists(list(1, 2)), spans(1, 1, 2, 2), list(1, 2), api.OK},
		{line("- o1", 1, 1, 2, 2, 1, 1), nil, nil, nil, api.ErrRule},
		{line("- o1", 1, 1, 2, 3, 1, 1), lists(list(1, 2)), spans(1, 1, 2, 2), list(1, 2), api.OK},
		{line("o99 -", 1, 1, 190, 200, 1, 1), lists(list(91, 92), list(92, 93), list(93, 94), list(94, 95), list(95, 96), list(96, 97), list(97, 98), list(98, 99)), spans(91, 98, 92, 99), list(0, 0), api.OK},
		{line("0 -", 1, 1, 2, 2, 1, 1), nil, nil, nil, api.ErrRule},
		{line("07 -", 1, 1, 2, 2, 1, 1), nil, nil, nil, api.ErrRule},
		{line("? o?", 1, 1, 18, 20, 1, 1), lists(list(8, 9), list(9, 10)), spans(8, 9, 9, 10), list(0, 0), api.OK},
		{line("7 o3", 1, 1, 10, 12, 1, 2), lists(list(7, 8), list(7, 9)), spans(7, 7, 8, 9), list(7, 0), api.OK},
	} {
		all, e := stone.All(x.l)
		bounds, f := stone.Spans(x.l)
		known, g := stone.Known(x.l)
		if !sameLists(all, x.all) || e != x.e || !slices.Equal(bounds, x.spans) || f != x.e || !slices.Equal(known, x.known) || g != x.e {
			t.Error(i, all, e, bounds, f, known, g)
		}
	}
}

// P9.2: all numberings of lines of all kinds, their bounds, and what is known, by all truths.
func TestNumberingsOfLines(t *testing.T) {
	for _, l := range someLines(rand.New(rand.NewPCG(9, 2)), 2500) {
		truths, _ := truthsOf(l)
		want := numberingsOf(truths)
		all, e := stone.All(l)
		bounds, f := stone.Spans(l)
		known, g := stone.Known(l)
		if len(want) == 0 {
			if e != api.ErrRule || f != api.ErrRule || g != api.ErrRule {
				t.Error(l, e, f, g)
			}
			continue
		}
		if f != api.OK || g != api.OK || !slices.Equal(bounds, boundsOf(want)) || !slices.Equal(known, knownOf(want)) {
			t.Error(l, bounds, f, known, g)
		}
		if few := len(want) <= 40; few && (e != api.OK || !sameLists(all, want)) || !few && (e != api.ErrOpen || len(all) > 0) {
			t.Error(l, all, e, len(want))
		}
	}
}

// boundsOf returns the least and the greatest number of each stone, of all numberings.
func boundsOf(all [][]int) (bounds []api.Span) {
	for i, n := range all[0] {
		bounds = append(bounds, api.Span{Low: n, High: n})
		for _, numbers := range all {
			bounds[i].Low, bounds[i].High = min(bounds[i].Low, numbers[i]), max(bounds[i].High, numbers[i])
		}
	}
	return bounds
}

// knownOf returns the numbers that are the same in all numberings, and 0 for others.
func knownOf(all [][]int) []int {
	known := slices.Clone(all[0])
	for _, numbers := range all {
		for i, n := range numbers {
			if n != all[0][i] {
				known[i] = 0
			}
		}
	}
	return known
}

// P9.2: bounds of lines with far more numberings than can be listed: each end is reached, and nothing is outside.
func TestSpansOfWideLines(t *testing.T) {
	for stones := 2; stones <= 8; stones++ {
		bounds, e := stone.Spans(wideLine(stones))
		known, f := stone.Known(wideLine(stones))
		for i := range stones {
			if e != api.OK || f != api.OK || bounds[i] != (api.Span{Low: 1 + i, High: 100 - stones + i}) || known[i] != 0 {
				t.Error(stones, bounds, e, known, f)
			}
		}
	}
	for _, l := range looseLines(rand.New(rand.NewPCG(9, 3)), 60) {
		bounds, e := stone.Spans(l)
		for i := range l.Marks {
			var can []int
			for n := 1; n <= 99; n++ {
				if isPossible(l, func(stone, number int) bool { return stone != i || number == n }) {
					can = append(can, n)
				}
			}
			if e != api.OK || bounds[i] != (api.Span{Low: can[0], High: can[len(can)-1]}) {
				t.Error(l, i, bounds, e, can)
			}
		}
	}
}

// looseLines returns possible lines of many stones, with one Turn, of which little is known.
func looseLines(r *rand.Rand, many int) (all []api.StoneLine) {
	for len(all) < many {
		l := someLine(r, 5+r.IntN(4), 3+r.IntN(9))
		l.Turn.Low = l.Turn.High
		if isPossible(l, anyNumber) {
			all = append(all, l)
		}
	}
	return all
}

// P9.2, P9.3: up to 40 numberings are listed, but no more; those of several Turns count once.
func TestTooManyNumberings(t *testing.T) {
	for _, high := range list(2, 3, 12) {
		for paces, want := range map[int]int{59: 40, 58: 0, 60: 39, 1: 0} {
			l := line("- -", 1, 1, 2, high, paces, paces)
			all, e := stone.All(l)
			i, left, f := stone.Next(l)
			if want > 0 && (e != api.OK || len(all) != want || f != api.OK || i != 0 || left != 1) || want == 0 && (e != api.ErrOpen || len(all) > 0 || f != api.ErrOpen || i != 0 || left != 0) {
				t.Error(l, all, e, i, left, f)
			}
		}
	}
	// With each Turn there are no more than 40, but with both there are.
	for _, x := range lists(list(80, 80), list(81, 81), list(80, 81)) {
		all, e := stone.All(line("- o3?", 1, 1, x[0], x[1], 1, 4))
		if x[0] == x[1] && (len(all) != 40 || e != api.OK) || x[0] < x[1] && e != api.ErrOpen {
			t.Error(x, all, e)
		}
	}
	for stones := 2; stones <= 8; stones++ {
		if all, e := stone.All(wideLine(stones)); len(all) > 0 || e != api.ErrOpen {
			t.Error(stones, all, e)
		}
	}
}

// P9.3: the chapter's stone, and edges.
func TestNext(t *testing.T) {
	for i, x := range []struct {
		l          api.StoneLine
		next, left int
		e          api.Errno
	}{
		{lineA(), 3, 1, api.OK}, {smallLine(), 0, 1, api.OK}, {lineB(), 0, 0, api.ErrRule}, {wideLine(2), 0, 0, api.ErrOpen}, {line("- -", 1, 1, 2, 2, 99, 99), 0, 0, api.ErrRule}, {line("- -", 1, 1, 2, 2, 98, 98), 0, 1, api.OK},
		{line("- -", 1, 1, 2, 2, 97, 98), 0, 2, api.OK}, {line("- -", 1, 1, 2, 2, 96, 98), 0, 3, api.OK}, {line("7 - -", 1, 1, 2, 2, 1, 2, 1, 1), 1, 1, api.OK}, {line("7 - -", 1, 1, 2, 2, 1, 2, 1, 2), 1, 2, api.OK},
		{line("7 - -", 1, 1, 2, 2, 1, 3, 1, 2), 1, 2, api.OK}, {line("- - 30", 1, 1, 2, 2, 1, 2, 1, 2), 0, 2, api.OK}, {line("- 20 -", 1, 1, 2, 2, 1, 3, 1, 3), 0, 3, api.OK}, {line("- 20 -", 1, 1, 2, 2, 1, 2, 1, 3), 2, 2, api.OK},
		{line("- 20 -", 1, 1, 2, 2, 1, 3, 1, 2), 0, 2, api.OK}, {line("7 o3", 1, 1, 10, 12, 1, 2), 1, 1, api.OK},
	} {
		if y, left, e := stone.Next(x.l); y != x.next || left != x.left || e != x.e {
			t.Error(i, y, left, e)
		}
	}
	for i, l := range wrongLines() {
		if y, left, e := stone.Next(l); y != 0 || left != 0 || e != api.ErrArg {
			t.Error(i, y, left, e)
		}
	}
}

// P9.3: after no other stone are fewer numberings left at most, nor as many after one before it.
func TestNextOfLines(t *testing.T) {
	for _, l := range someLines(rand.New(rand.NewPCG(9, 4)), 2000) {
		truths, _ := truthsOf(l)
		all := numberingsOf(truths)
		y, left, e := stone.Next(l)
		if len(all) == 0 || len(all) > 40 {
			if want := map[bool]api.Errno{true: api.ErrRule, false: api.ErrOpen}[len(all) == 0]; e != want || y != 0 || left != 0 {
				t.Error(l, y, left, e)
			}
			continue
		}
		next, fewest := -1, 41
		for i := range l.Marks {
			if most := mostWithOneNumber(all, i); most < fewest {
				next, fewest = i, most
			}
		}
		if y != next || left != fewest || e != api.OK {
			t.Error(l, all, y, left, e, next, fewest)
		}
	}
}

// mostWithOneNumber returns the greatest number of numberings in which a stone has one number.
func mostWithOneNumber(all [][]int, stone int) (most int) {
	for n := 1; n <= 99; n++ {
		with := 0
		for _, numbers := range all {
			if numbers[stone] == n {
				with++
			}
		}
		most = max(most, with)
	}
	return most
}

// wordsAt returns words for so many stones, which are never but at some places.
func wordsAt(stones int, word api.StoneWord, places ...int) []api.StoneWord {
	words := slices.Repeat([]api.StoneWord{never}, 2*stones+1)
	for _, place := range places {
		words[place] = word
	}
	return words
}

// P9.4: the chapter's places, and edges.
func TestWhere(t *testing.T) {
	for i, x := range []struct {
		l      api.StoneLine
		number int
		want   []api.StoneWord
		e      api.Errno
	}{
		{lineA(), 12, wordsAt(4, surely, 6), api.OK}, {lineA(), 13, wordsAt(4, may, 6, 7), api.OK}, {lineA(), 14, wordsAt(4, may, 7, 8), api.OK}, {lineA(), 20, wordsAt(4, surely, 8), api.OK}, {lineA(), 99, wordsAt(4, surely, 8), api.OK},
		{lineA(), 1, wordsAt(4, surely, 0), api.OK}, {lineA(), 6, wordsAt(4, surely, 0), api.OK}, {lineA(), 7, wordsAt(4, surely, 1), api.OK}, {lineA(), 8, wordsAt(4, surely, 3), api.OK}, {lineA(), 9, wordsAt(4, surely, 4), api.OK},
		{lineA(), 11, wordsAt(4, surely, 5), api.OK}, {lineA(), 0, nil, api.ErrArg}, {lineA(), 100, nil, api.ErrArg}, {lineA(), -1, nil, api.ErrArg}, {lineA(), huge, nil, api.ErrArg}, {lineA(), -huge - 1, nil, api.ErrArg},
		{lineB(), 12, nil, api.ErrRule}, {lineB(), 0, nil, api.ErrArg}, {lineB(), 100, nil, api.ErrArg}, {smallLine(), 4, wordsAt(2, surely, 1), api.OK}, {smallLine(), 5, wordsAt(2, surely, 3), api.OK}, {smallLine(), 6, wordsAt(2, surely, 4), api.OK},
		{line("- -", 1, 1, 2, 2, 98, 98), 1, wordsAt(2, surely, 1), api.OK}, {line("- -", 1, 1, 2, 2, 98, 98), 2, wordsAt(2, surely, 2), api.OK}, {line("- -", 1, 1, 2, 2, 98, 98), 98, wordsAt(2, surely, 2), api.OK},
		{line("- -", 1, 1, 2, 2, 98, 98), 99, wordsAt(2, surely, 3), api.OK}, {line("- -", 1, 1, 2, 2, 1, 1), 1, wordsAt(2, may, 0, 1), api.OK}, {line("- -", 1, 1, 2, 2, 1, 1), 99, wordsAt(2, may, 3, 4), api.OK},
		{line("- -", 1, 1, 2, 2, 1, 1), 50, wordsAt(2, may, 0, 1, 3, 4), api.OK}, {line("- -", 1, 1, 2, 2, 2, 2), 50, wordsAt(2, may, 0, 1, 2, 3, 4), api.OK}, {line("- -", 1, 1, 2, 2, 2, 2), 2, wordsAt(2, may, 0, 1, 2), api.OK},
		{line("- -", 1, 1, 2, 2, 2, 2), 98, wordsAt(2, may, 2, 3, 4), api.OK}, {wideLine(8), 1, wordsAt(8, may, 0, 1), api.OK}, {wideLine(8), 99, wordsAt(8, may, 15, 16), api.OK}, {wideLine(8), 50, slices.Repeat([]api.StoneWord{may}, 17), api.OK},
		{line("? o?", 1, 1, 18, 20, 1, 1), 9, wordsAt(2, may, 1, 3), api.OK}, {line("? o?", 1, 1, 18, 20, 1, 1), 8, wordsAt(2, may, 0, 1), api.OK}, {line("? o?", 1, 1, 18, 20, 1, 1), 7, wordsAt(2, surely, 0), api.OK},
	} {
		if y, e := stone.Where(x.l, x.number); !slices.Equal(y, x.want) || e != x.e {
			t.Error(i, y, e)
		}
	}
	for i, l := range wrongLines() {
		if y, e := stone.Where(l, 12); len(y) > 0 || e != api.ErrArg {
			t.Error(i, y, e)
		}
	}
}

// placeIn returns the place of a number in a numbering.
func placeIn(numbers []int, number int) int {
	i, found := slices.BinarySearch(numbers, number)
	if found {
		return 2*i + 1
	}
	return 2 * i
}

// P9.4: each number has just one place in each truth that fits, none that never is, and each that surely is.
func TestWhereOfLines(t *testing.T) {
	for _, l := range someLines(rand.New(rand.NewPCG(9, 5)), 400) {
		truths, _ := truthsOf(l)
		all := numberingsOf(truths)
		for n := 1; n <= 99; n++ {
			words, e := stone.Where(l, n)
			if len(all) == 0 {
				if e != api.ErrRule || len(words) > 0 {
					t.Error(l, n, words, e)
				}
				continue
			}
			met := map[int]bool{}
			for _, numbers := range all {
				met[placeIn(numbers, n)] = true
			}
			want := wordsAt(len(l.Marks), never)
			for place := range met {
				want[place] = map[bool]api.StoneWord{true: surely, false: may}[len(met) == 1]
			}
			if !slices.Equal(words, want) || e != api.OK {
				t.Error(l, n, words, e, want)
			}
		}
	}
}

// P9.4: the places in lines with far more numberings than can be listed.
func TestWhereOfWideLines(t *testing.T) {
	r := rand.New(rand.NewPCG(9, 6))
	for _, l := range looseLines(r, 150) {
		n := 1 + r.IntN(99)
		words, e := stone.Where(l, n)
		var places []int
		for place := range 2*len(l.Marks) + 1 {
			if isPossible(l, func(stone, number int) bool { return isOnSide(place, stone, number, n) }) {
				places = append(places, place)
			}
		}
		word := map[bool]api.StoneWord{true: surely, false: may}[len(places) == 1]
		if !slices.Equal(words, wordsAt(len(l.Marks), word, places...)) || e != api.OK {
			t.Error(l, n, words, e, places)
		}
	}
}

// isOnSide reports whether the number of a stone leaves another number its place.
func isOnSide(place, stone, number, other int) bool {
	switch its := 2*stone + 1; {
	case its < place:
		return number < other
	case its > place:
		return number > other
	}
	return number == other
}

// P9.9: a Text that is left out never makes bounds narrower.
func TestTextLeftOut(t *testing.T) {
	for _, l := range someLines(rand.New(rand.NewPCG(9, 7)), 800) {
		before, e := stone.Spans(l)
		for i := range l.Marks {
			after, f := stone.Spans(withText(l, i, ""))
			if e == api.OK && (f != api.OK || !areWithin(before, after)) {
				t.Error(l, i, before, after, f)
			}
		}
	}
}

// P9.9: a gap whose bounds are nearer never makes bounds wider.
func TestNearerGap(t *testing.T) {
	r := rand.New(rand.NewPCG(9, 8))
	for _, l := range someLines(r, 800) {
		before, e := stone.Spans(l)
		for i, x := range l.Gaps {
			low := x.Low + r.IntN(x.High-x.Low+1)
			high := low + r.IntN(x.High-low+1)
			after, f := stone.Spans(changed(l, func(l *api.StoneLine) { l.Gaps[i] = api.Span{Low: low, High: high} }))
			if e == api.OK && f == api.OK && !areWithin(after, before) || e != api.OK && f == api.OK {
				t.Error(l, i, low, high, before, after, f)
			}
		}
	}
}

// areWithin reports whether each span is within another one.
func areWithin(spans, others []api.Span) bool {
	for i, x := range spans {
		if x.Low < others[i].Low || others[i].High < x.High {
			return false
		}
	}
	return len(spans) == len(others)
}
