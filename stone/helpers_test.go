package stone_test

import (
	"cmp"
	"math/rand/v2"
	"slices"
	"strconv"
	"strings"

	"quinaria/api"
)

const huge = int(^uint(0) >> 1)

func list(n ...int) []int { return n }

func lists(x ...[]int) [][]int { return x }

func sameLists(a, b [][]int) bool { return slices.EqualFunc(a, b, slices.Equal) }

// spans returns spans with these bounds, one after the other.
func spans(n ...int) (all []api.Span) {
	for i := 0; i < len(n); i += 2 {
		all = append(all, api.Span{Low: n[i], High: n[i+1]})
	}
	return all
}

// marks returns marks with these Texts, separated by blanks, - for an empty one; what is behind an o is Old.
func marks(texts string) (all []api.StoneMark) {
	for _, text := range strings.Fields(texts) {
		rest, old := strings.CutPrefix(text, "o")
		all = append(all, api.StoneMark{Text: strings.TrimPrefix(rest, "-"), Old: old})
	}
	return all
}

// line returns a line with Least, Most and the bounds of its Turn and of its gaps, one after the other.
func line(texts string, n ...int) api.StoneLine {
	return api.StoneLine{Least: n[0], Most: n[1], Turn: api.Span{Low: n[2], High: n[3]}, Marks: marks(texts), Gaps: spans(n[4:]...)}
}

// changed returns a line in memory of its own, with some change.
func changed(l api.StoneLine, change func(*api.StoneLine)) api.StoneLine {
	l.Marks, l.Gaps = slices.Clone(l.Marks), slices.Clone(l.Gaps)
	change(&l)
	return l
}

// withText returns a line one of whose stones has another Text.
func withText(l api.StoneLine, stone int, text string) api.StoneLine {
	return changed(l, func(l *api.StoneLine) { l.Marks[stone].Text = text })
}

// withoutTexts returns a line with some Texts left out.
func withoutTexts(l api.StoneLine, stones []int) api.StoneLine {
	for _, i := range stones {
		l = withText(l, i, "")
	}
	return l
}

// lineA is the chapter's line a.
func lineA() api.StoneLine { return line("7 - 1? o3?", 90, 110, 50, 52, 95, 105, 290, 310, 190, 330) }

// lineB is the chapter's line b.
func lineB() api.StoneLine { return withText(lineA(), 2, "12") }

// smallLine is the line whose book the chapter shows.
func smallLine() api.StoneLine { return line("- 5", 1, 1, 2, 2, 1, 1) }

// wideLine is a line of which nothing is left, and whose gaps are of any number of steps.
func wideLine(stones int) api.StoneLine {
	return line(strings.Repeat("- ", stones), append(list(1, 500, 190, 200), slices.Repeat(list(1, 50000), stones-1)...)...)
}

// fullLine is a line with as much of everything as there can be, and as long a book.
func fullLine() api.StoneLine {
	return line(strings.Repeat("?? ", 8), append(list(500, 500, 190, 200), slices.Repeat(list(50000, 50000), 7)...)...)
}

// closeLine is a line whose stones stood side by side, each with some Text.
func closeLine() api.StoneLine {
	return line("?1 o? 2? o?7 ? 26 - o-", append(list(100, 100, 30, 40), slices.Repeat(list(100, 100), 7)...)...)
}

// ourLines are lines of all kinds.
func ourLines() []api.StoneLine {
	return []api.StoneLine{
		lineA(), lineB(), smallLine(), wideLine(2), wideLine(3), wideLine(8), fullLine(), closeLine(),
		line("1? - - o-", 100, 120, 60, 60, 100, 240, 350, 350, 99, 101), line("o9? o9?", 5, 6, 100, 101, 30, 31), line("0 99", 1, 500, 2, 2, 1, 50000), line("- -", 500, 500, 2, 12, 499, 499), line("-  o1", 1, 9, 90, 100, 4, 4),
		line("? ?? ??", 90, 110, 2, 2, 90, 900, 100, 330), line("o? o? o?", 40, 60, 12, 14, 50, 120, 100, 150), line("98 ?? o-", 1, 1, 200, 200, 1, 1, 1, 1), line("?? ?? ??", 30, 40, 100, 110, 3000, 3100, 60, 75),
	}
}

// wrongLines are lines each of which is not as defined in one way.
func wrongLines() []api.StoneLine {
	wrong := []api.StoneLine{{}, line("", 1, 1, 2, 2), line("5", 1, 1, 2, 2), wideLine(9), wideLine(100)}
	for _, change := range []func(*api.StoneLine){
		func(l *api.StoneLine) { l.Least = 111 }, func(l *api.StoneLine) { l.Least = 0 }, func(l *api.StoneLine) { l.Least, l.Most = 0, 0 }, func(l *api.StoneLine) { l.Most = 89 }, func(l *api.StoneLine) { l.Most = 501 },
		func(l *api.StoneLine) { l.Least, l.Most = 501, 501 }, func(l *api.StoneLine) { l.Turn.Low = 53 }, func(l *api.StoneLine) { l.Turn.High = 49 }, func(l *api.StoneLine) { l.Turn = api.Span{Low: 1, High: 5} },
		func(l *api.StoneLine) { l.Turn = api.Span{Low: 1, High: 1} }, func(l *api.StoneLine) { l.Turn = api.Span{Low: 195, High: 201} }, func(l *api.StoneLine) { l.Turn = api.Span{Low: 201, High: 201} }, func(l *api.StoneLine) { l.Turn = api.Span{Low: 50, High: 61} },
		func(l *api.StoneLine) { l.Turn = api.Span{} }, func(l *api.StoneLine) { l.Marks = nil }, func(l *api.StoneLine) { l.Marks = l.Marks[:3] }, func(l *api.StoneLine) { l.Marks = slices.Repeat(l.Marks, 2) }, func(l *api.StoneLine) { l.Gaps = nil },
		func(l *api.StoneLine) { l.Gaps = l.Gaps[:2] }, func(l *api.StoneLine) { l.Gaps = append(l.Gaps, l.Gaps[0]) }, func(l *api.StoneLine) { l.Gaps = slices.Repeat(l.Gaps, 50) }, func(l *api.StoneLine) { l.Gaps[0].Low = 106 },
		func(l *api.StoneLine) { l.Gaps[2].High = 189 }, func(l *api.StoneLine) { l.Gaps[0].Low = 0 }, func(l *api.StoneLine) { l.Gaps[1] = api.Span{} }, func(l *api.StoneLine) { l.Gaps[2].High = 50001 }, func(l *api.StoneLine) { l.Gaps[2] = api.Span{Low: 50001, High: 50001} },
	} {
		wrong = append(wrong, changed(lineA(), change))
	}
	for _, text := range []string{"123", "???", "x", "1x", "x1", "-", "--", "-1", "+1", " ", " 1", "1 ", "1\n", "\n", "/", ":", "!", "@", "٣", "７", "1７", "\xff", "1\xff", "\x00", "¿", "??\x00", "\x00?", strings.Repeat("?", 100000)} {
		wrong = append(wrong, withText(lineA(), 0, text), withText(lineA(), 3, text))
	}
	for _, n := range list(-1, -huge-1, huge) {
		for _, change := range []func(*api.StoneLine){
			func(l *api.StoneLine) { l.Least = n }, func(l *api.StoneLine) { l.Most = n }, func(l *api.StoneLine) { l.Least, l.Most = n, n }, func(l *api.StoneLine) { l.Turn.Low = n }, func(l *api.StoneLine) { l.Turn.High = n },
			func(l *api.StoneLine) { l.Turn = api.Span{Low: n, High: n} }, func(l *api.StoneLine) { l.Gaps[0].Low = n }, func(l *api.StoneLine) { l.Gaps[2].High = n }, func(l *api.StoneLine) { l.Gaps[1] = api.Span{Low: n, High: n} },
		} {
			wrong = append(wrong, changed(lineA(), change))
		}
	}
	return wrong
}

// isWritten reports whether a Text can be left of a number.
func isWritten(text string, number int) bool {
	if number < 1 || number > 99 {
		return false
	}
	digits := strconv.Itoa(number)
	for i := range min(len(digits), len(text)) {
		if text[i] == '?' {
			digits = digits[:i] + "?" + digits[i+1:]
		}
	}
	return digits == text
}

// agrees reports whether a mark agrees with the number of its stone and a Turn, as the chapter defines it.
func agrees(x api.StoneMark, number, turn int) bool {
	if x.Old {
		number = turn - number
	}
	return x.Text == "" || isWritten(x.Text, number)
}

// isStep reports whether a gap agrees with a difference, as the chapter defines it.
func isStep(l api.StoneLine, gap, difference int) bool {
	x := l.Gaps[gap]
	return difference > 0 && max(x.Low, l.Least*difference) <= min(x.High, l.Most*difference)
}

// isTruth reports whether a truth fits a line, as the chapter defines it.
func isTruth(l api.StoneLine, t api.StoneTruth) bool {
	for i, n := range t.Numbers {
		if !agrees(l.Marks[i], n, t.Turn) || i > 0 && !isStep(l, i-1, n-t.Numbers[i-1]) {
			return false
		}
	}
	return l.Turn.Low <= t.Turn && t.Turn <= l.Turn.High
}

// mostTruths is how many beginnings of truths are tried at most.
const mostTruths = 2000

// truthsOf returns all truths that fit a line, and whether there were not too many to try.
func truthsOf(l api.StoneLine) (truths []api.StoneTruth, all bool) {
	tried := 0
	var numbers []int
	var goOn func(turn int)
	goOn = func(turn int) {
		k := len(numbers)
		if tried++; k == len(l.Marks) || tried > mostTruths {
			truths = append(truths, api.StoneTruth{Numbers: slices.Clone(numbers), Turn: turn})
			return
		}
		from := 1
		if k > 0 {
			from = numbers[k-1] + 1
		}
		for n := from; n <= 99; n++ {
			if (k == 0 || isStep(l, k-1, n-numbers[k-1])) && agrees(l.Marks[k], n, turn) {
				numbers = append(numbers, n)
				goOn(turn)
				numbers = numbers[:k]
			}
		}
	}
	for turn := l.Turn.Low; turn <= l.Turn.High; turn++ {
		goOn(turn)
	}
	return truths, tried <= mostTruths
}

// numberingsOf returns the Numbers of truths, each once, in lexicographic order.
func numberingsOf(truths []api.StoneTruth) (all [][]int) {
	for _, t := range truths {
		all = append(all, t.Numbers)
	}
	slices.SortFunc(all, slices.Compare)
	return slices.CompactFunc(all, slices.Equal)
}

// isPossible reports whether a line has a numbering whose numbers are all allowed: number after number, with all that go before it.
func isPossible(l api.StoneLine, isAllowed func(stone, number int) bool) bool {
	for turn := l.Turn.Low; turn <= l.Turn.High; turn++ {
		var some []int
		for i := range l.Marks {
			var next []int
			for n := 1; n <= 99; n++ {
				goes := i == 0 || slices.ContainsFunc(some, func(before int) bool { return isStep(l, i-1, n-before) })
				if goes && isAllowed(i, n) && agrees(l.Marks[i], n, turn) {
					next = append(next, n)
				}
			}
			some = next
		}
		if len(some) > 0 {
			return true
		}
	}
	return false
}

// anyNumber allows all numbers.
func anyNumber(stone, number int) bool { return true }

// textsIn returns all stones with a Text that is not empty.
func textsIn(l api.StoneLine) (stones []int) {
	for i, x := range l.Marks {
		if x.Text != "" {
			stones = append(stones, i)
		}
	}
	return stones
}

// partsOf returns all lists of some of these numbers, the shorter ones first, and those that are equally long in lexicographic order.
func partsOf(numbers []int) (parts [][]int) {
	for bits := range 1 << len(numbers) {
		var part []int
		for i, n := range numbers {
			if bits>>i&1 == 1 {
				part = append(part, n)
			}
		}
		parts = append(parts, part)
	}
	slices.SortFunc(parts, func(a, b []int) int { return cmp.Or(cmp.Compare(len(a), len(b)), slices.Compare(a, b)) })
	return parts
}

// someTruth returns some rising numbers, and a Turn.
func someTruth(r *rand.Rand, stones int) api.StoneTruth {
	numbers := r.Perm(99)[:stones]
	if r.IntN(3) > 0 {
		// Stones that are nearer to each other leave room for more that fits.
		for i := range numbers {
			numbers[i] = 4*i + r.IntN(4) + numbers[0]%60
		}
	}
	slices.Sort(numbers)
	for i := range numbers {
		numbers[i]++
	}
	return api.StoneTruth{Numbers: numbers, Turn: 2 + r.IntN(120)}
}

// someMark returns what could be left of a stone in a truth.
func someMark(r *rand.Rand, number, turn int) api.StoneMark {
	x := api.StoneMark{Old: r.IntN(3) == 0}
	if x.Old {
		number = turn - number
	}
	if number < 1 || number > 99 || r.IntN(3) == 0 {
		return x
	}
	digits := []byte(strconv.Itoa(number))
	for i := range digits {
		if r.IntN(3) > 0 {
			digits[i] = '?'
		}
	}
	x.Text = string(digits)
	return x
}

// someLine returns a line that a truth fits, with so many stones, and gaps that are known up to so many steps.
func someLine(r *rand.Rand, stones, off int) api.StoneLine {
	t := someTruth(r, stones)
	l := api.StoneLine{Least: 1 + r.IntN(200)}
	l.Most = l.Least + r.IntN(1+l.Least/4)
	l.Turn.Low = max(2, t.Turn-r.IntN(6))
	l.Turn.High = min(200, t.Turn+r.IntN(6))
	for i, n := range t.Numbers {
		l.Marks = append(l.Marks, someMark(r, n, t.Turn))
		if i > 0 {
			paces := (n-t.Numbers[i-1])*l.Least + r.IntN(1+(n-t.Numbers[i-1])*(l.Most-l.Least))
			around := r.IntN(1 + off*l.Least)
			l.Gaps = append(l.Gaps, api.Span{Low: max(1, paces-around), High: min(50000, paces+around)})
		}
	}
	return l
}

// misread returns a line some of whose Texts are others.
func misread(r *rand.Rand, l api.StoneLine, many int) api.StoneLine {
	for range many {
		digits := strconv.Itoa(r.IntN(100))
		if r.IntN(3) == 0 {
			digits = digits[:1] + "?"
		}
		l = withText(l, r.IntN(len(l.Marks)), digits)
	}
	return l
}

// someLines returns our own lines and others of all sizes, with not too much that fits; some of them are not possible.
func someLines(r *rand.Rand, many int) (all []api.StoneLine) {
	for _, l := range ourLines() {
		if _, few := truthsOf(l); few {
			all = append(all, l)
		}
	}
	for len(all) < many {
		l := misread(r, someLine(r, 2+r.IntN(7), r.IntN(4)), max(0, r.IntN(5)-3))
		if truths, few := truthsOf(l); few && (len(truths) > 0 || r.IntN(3) == 0) {
			all = append(all, l)
		}
	}
	return all
}

// sameLine reports whether two lines are the same value.
func sameLine(a, b api.StoneLine) bool {
	return a.Least == b.Least && a.Most == b.Most && a.Turn == b.Turn && slices.Equal(a.Marks, b.Marks) && slices.Equal(a.Gaps, b.Gaps)
}

// isNone reports whether a line is the zero value.
func isNone(l api.StoneLine) bool { return sameLine(l, api.StoneLine{}) }
