package leak_test

import (
	"math/rand/v2"
	"reflect"
	"slices"
	"testing"

	"quinaria/api"
	"quinaria/leak"
)

// given is the arguments of all functions.
type given struct {
	l           api.LeakLine
	t           api.LeakTruth
	set, points []int
	a, b, off   int
}

// clone returns arguments in memory of their own.
func (x given) clone() given {
	x.l.Gives, x.l.Counts = slices.Clone(x.l.Gives), slices.Clone(x.l.Counts)
	x.t.Losses, x.set, x.points = slices.Clone(x.t.Losses), slices.Clone(x.set), slices.Clone(x.points)
	return x
}

// answer is what a function returns: one or two results, and an error.
func answer(x ...any) []any { return x }

// answers returns what all functions return for some arguments.
func answers(x given) [][]any {
	text, e := leak.Print(x.l)
	all := [][]any{{text, e}, {leak.Check(x.l)}}
	put := func(y any, e api.Errno) { all = append(all, answer(y, e)) }
	putTwo := func(y, z int, e api.Errno) { all = append(all, answer(y, z, e)) }
	fits, e := leak.Fits(x.l, x.t)
	put(fits, e)
	possible, e := leak.Possible(x.l)
	put(possible, e)
	flows, e := leak.Flows(x.l, x.a)
	put(flows, e)
	lost, e := leak.Lost(x.l, x.a, x.b)
	put(lost, e)
	known, e := leak.Known(x.l)
	put(known, e)
	sets, e := leak.Sets(x.l)
	put(sets, e)
	explains, e := leak.Explains(x.l, x.set)
	put(explains, e)
	putTwo(leak.Next(x.l, x.off))
	tells, e := leak.Tells(x.l, x.points, x.off)
	put(tells, e)
	plan, e := leak.Plan(x.l, x.off)
	put(plan, e)
	putTwo(leak.Clash(x.l))
	wrong, e := leak.Wrong(x.l)
	put(wrong, e)
	read, e := leak.Read(text)
	put(read, e)
	return all
}

// ours are some arguments, with most of which all functions have results.
func ours() []given {
	return []given{
		{lineM(), truth(100, 8, 0, 0), list(1), list(1, 2), 1, 2, 2},
		{with(lineM(), 1, 90, 94), truth(100, 0, 8, 0), list(2), list(2), 0, 3, 3},
		{lineN(), truth(104, 0, 12, 0), list(0), list(0, 1), 1, 1, 4},
		{fullLine(), truth(400, 0, 0, 0, 0, 60), list(4), list(1, 2, 3, 4, 5), 0, 5, 20},
		{wideLine(), truth(400, 60, 0, 0, 0, 1), list(0, 4), list(0, 1, 2, 3, 4, 5), 2, 5, 0},
		{tripleLine(), truth(100, 10, 10, 10), nil, nil, 0, 0, 0},
		{line(list(0), 1, 1, 0, 0, 5, 5, 0, 6, 6, 0, 5, 5, 0, 6, 6), truth(0, 0), nil, list(0), 0, 1, 20},
	}
}

// P0.1, R5: every function answers, whatever the arguments are.
func TestAnyValue(t *testing.T) {
	values := []int{-huge - 1, -400, -1, 0, 1, 2, 3, 5, 6, 20, 21, 60, 61, 400, 401, huge - 1, huge}
	for i := range ours() {
		for _, a := range values {
			for j, b := range values {
				x := ours()[i]
				x.a, x.b, x.off, x.t, x.set, x.points = a, b, a, truth(a, slices.Repeat(list(b), len(x.l.Gives))...), list(a, b), list(b, a)
				answers(x)
				c := values[(j+5)%len(values)]
				x.l = line(list(a, 0, b), b, a, c, a, b, c, c, b, a)
				answers(x)
			}
		}
		x := ours()[i]
		for _, l := range wrongLines() {
			x.l = l
			answers(x)
		}
	}
	many := slices.Repeat(list(1), 100000)
	answers(given{l: line(many, 1, 1, 1, slices.Repeat(list(1), 99999)...), t: truth(1, many...), set: many, points: many})
	answers(given{l: lineM(), t: truth(1, many...), set: many, points: many})
	answers(given{})
}

// R2: with an error, all other results are zero values.
func TestErrorsHaveNoResults(t *testing.T) {
	for _, x := range ours() {
		for _, l := range slices.Concat(wrongLines(), impossibleLines()) {
			x.l = l
			for i, y := range answers(x) {
				if y[len(y)-1] == api.OK {
					continue
				}
				for _, z := range y[:len(y)-1] {
					if v := reflect.ValueOf(z); !v.IsZero() && !(v.Kind() == reflect.Slice && v.Len() == 0) {
						t.Error(i, l, y)
					}
				}
			}
		}
	}
}

// R4, R8: no argument is changed, no result shares memory with another one, and equal calls have equal results.
func TestNothingIsKept(t *testing.T) {
	for i, x := range ours() {
		before := x.clone()
		first := answers(x)
		again := answers(x.clone())
		if !reflect.DeepEqual(x, before) || !reflect.DeepEqual(first, again) {
			t.Error(i, x, first, again)
		}
		for _, y := range first {
			spoil(y[0])
		}
		if !reflect.DeepEqual(x, before) || !reflect.DeepEqual(again, answers(x)) {
			t.Error("results share memory", i, x, before)
		}
	}
}

// spoil overwrites the memory of a result.
func spoil(x any) {
	switch y := x.(type) {
	case []int:
		for i := range y {
			y[i] = -77
		}
	case [][]int:
		for _, set := range y {
			spoil(set)
		}
	case []api.LeakWord:
		for i := range y {
			y[i] = -77
		}
	case api.LeakLine:
		spoil(y.Gives)
		for i := range y.Counts {
			y.Counts[i] = api.LeakCount{Point: -77}
		}
	}
}

// R4: no set shares memory with another one, nor with room behind it.
func TestSetsAreApart(t *testing.T) {
	sets, _ := leak.Sets(wideLine())
	again, _ := leak.Sets(wideLine())
	for k := range sets {
		spoil(append(sets[k], -77))
		spoil(sets[k])
		if !slices.EqualFunc(sets[k+1:], again[k+1:], slices.Equal) {
			t.Error(k, sets, again)
		}
	}
}

// R3: nil and empty lists are the same.
func TestNilAndEmpty(t *testing.T) {
	for _, x := range ours() {
		x.set, x.points, x.l.Counts, x.t.Losses = nil, nil, nil, nil
		y := x
		y.set, y.points, y.l.Counts, y.t.Losses = list(), list(), []api.LeakCount{}, list()
		if !reflect.DeepEqual(answers(x), answers(y)) {
			t.Error(answers(x), answers(y))
		}
		x.l.Gives, y.l.Gives = nil, list()
		if !reflect.DeepEqual(answers(x), answers(y)) {
			t.Error(answers(x), answers(y))
		}
	}
}

// explaining returns all sets that explain a line.
func explaining(l api.LeakLine) [][]int {
	sets, _ := leak.Sets(l)
	return sets
}

// areAmong reports whether all sets are among others.
func areAmong(sets, others [][]int) bool {
	return !slices.ContainsFunc(sets, func(x []int) bool {
		return !slices.ContainsFunc(others, func(y []int) bool { return slices.Equal(x, y) })
	})
}

// P5.8: with one count more no set explains a line that did not, and no bounds are wider.
func TestOneCountMore(t *testing.T) {
	isWithin := func(narrow, wide api.Span) bool { return wide.Low <= narrow.Low && narrow.High <= wide.High }
	r := rand.New(rand.NewPCG(5, 10))
	still := 0
	for range 2000 {
		l := someLine(r, 5, 5)
		low := r.IntN(401)
		more := with(l, r.IntN(len(l.Gives)+1), low, min(400, low+r.IntN(60)))
		if !areAmong(explaining(more), explaining(l)) {
			t.Error(l, more)
		}
		if len(explaining(more)) == 0 {
			continue
		}
		still++
		for from := range len(l.Gives) + 1 {
			wide, e := leak.Flows(l, from)
			narrow, f := leak.Flows(more, from)
			if !isWithin(narrow, wide) || e != api.OK || f != api.OK {
				t.Error(l, more, from, narrow, wide, e, f)
			}
			for to := from; to <= len(l.Gives); to++ {
				wide, e := leak.Lost(l, from, to)
				narrow, f := leak.Lost(more, from, to)
				if !isWithin(narrow, wide) || e != api.OK || f != api.OK {
					t.Error(l, more, from, to, narrow, wide, e, f)
				}
			}
		}
	}
	if still < 200 {
		t.Error("too few that are possible", still)
	}
}

// P5.8: with a greater number of Taps, each set that explained a line does so still.
func TestMoreTaps(t *testing.T) {
	r := rand.New(rand.NewPCG(5, 11))
	for range 2000 {
		l := someLine(r, 5, 5)
		for taps := range 2 {
			if !areAmong(explaining(tapping(l, taps)), explaining(tapping(l, taps+1))) {
				t.Error(l, taps)
			}
		}
	}
}

// P5.8: what is lost between two points lies between the sums of what is lost in both parts.
func TestLostInParts(t *testing.T) {
	r := rand.New(rand.NewPCG(5, 12))
	for range 1000 {
		l := someLine(r, 5, 4)
		if y, _ := leak.Possible(l); !y {
			continue
		}
		for from := range len(l.Gives) + 1 {
			for to := from; to <= len(l.Gives); to++ {
				whole, _ := leak.Lost(l, from, to)
				for via := from; via <= to; via++ {
					one, _ := leak.Lost(l, from, via)
					other, _ := leak.Lost(l, via, to)
					if whole.Low < one.Low+other.Low || whole.High > one.High+other.High {
						t.Error(l, from, via, to, whole, one, other)
					}
				}
			}
		}
	}
}
