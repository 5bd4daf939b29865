package stone_test

import (
	"reflect"
	"slices"
	"testing"

	"quinaria/api"
	"quinaria/stone"
)

// given is the arguments of all functions.
type given struct {
	l            api.StoneLine
	t            api.StoneTruth
	w            api.StoneWork
	faults, plan []int
	p            api.StonePrices
	number, days int
	text         string
}

// clone returns arguments in memory of their own.
func (x given) clone() given {
	x.l = changed(x.l, func(*api.StoneLine) {})
	x.w = changedWork(x.w, func(*api.StoneWork) {})
	x.t.Numbers, x.faults, x.plan = slices.Clone(x.t.Numbers), slices.Clone(x.faults), slices.Clone(x.plan)
	return x
}

// answers returns what all functions return for some arguments: up to two results, and an error.
func answers(x given) [][]any {
	all := [][]any{{stone.Check(x.l)}, {stone.CheckWork(x.w)}}
	put := func(y any, e api.Errno) { all = append(all, []any{y, e}) }
	fits, e := stone.Fits(x.l, x.t)
	put(fits, e)
	spans, e := stone.Spans(x.l)
	put(spans, e)
	known, e := stone.Known(x.l)
	put(known, e)
	numberings, e := stone.All(x.l)
	put(numberings, e)
	next, left, e := stone.Next(x.l)
	all = append(all, []any{next, left, e})
	words, e := stone.Where(x.l, x.number)
	put(words, e)
	wrong, e := stone.Wrong(x.l)
	put(wrong, e)
	time, e := stone.Time(x.w, x.faults)
	put(time, e)
	plan, days, e := stone.Crew(x.w)
	all = append(all, []any{plan, days, e})
	gangs, e := stone.Needs(x.w, x.days)
	put(gangs, e)
	coins, e := stone.Bill(x.w, x.plan, x.p)
	put(coins, e)
	text, e := stone.Print(x.l)
	put(text, e)
	read, e := stone.Read(x.text)
	put(read, e)
	printed, e := stone.Read(text)
	put(printed, e)
	return all
}

// ours are some arguments, with most of which all functions have results.
func ours() (all []given) {
	works := ourWorks()
	for i, l := range ourLines() {
		w := works[i%len(works)]
		x := given{l: l, w: w, plan: make([]int, len(w.Faults)), p: api.StonePrices{Wage: 4, Lead: 2, Tile: 3}, number: 12, days: 300, text: smallText}
		x.t.Turn = l.Turn.Low
		for k := range l.Marks {
			x.t.Numbers = append(x.t.Numbers, 7+k)
		}
		for k := range w.Faults {
			x.faults = append(x.faults, k)
		}
		all = append(all, x)
	}
	return all
}

// P0.1, R5: every function answers, whatever the arguments are.
func TestAnyValue(t *testing.T) {
	values := list(-huge-1, -50001, -1, 0, 1, 2, 3, 7, 8, 9, 10, 60, 61, 99, 100, 101, 200, 201, 500, 501, 10000, 10001, 50000, 50001, huge-1, huge)
	for _, x := range []given{ours()[0], ours()[7]} {
		for i, a := range values {
			for j, b := range values {
				c, d := values[(i+j+5)%len(values)], values[(3*i+j+1)%len(values)]
				y := x.clone()
				y.t, y.faults, y.plan = api.StoneTruth{Numbers: list(a, b, c, d), Turn: d}, list(a, b), list(b, c, d)
				y.p, y.number, y.days = api.StonePrices{Wage: a, Lead: b, Tile: c}, c, d
				answers(y)
				y.l, y.w = line("7 o?1", a, b, c, d, a, c), work(a, b, c, d, b, c, d, a)
				answers(y)
				y.l, y.w = line("- o? 1?", 9, 12, 50, 55, a, b, c, d), work(8, 3, 2, 3, a, b, 3, 4, 1, 2, c, d)
				answers(y)
				y.l, y.w = line("- o? 1?", a, b, 50, 55, 10, 30, 300, 5000), work(8, a, b, c, 3, 2, 3, 4)
				answers(y)
				y.l = line("- o? 1?", 9, 12, c, b, 10, 30, 300, 5000)
				answers(y)
			}
		}
	}
	for _, wrong := range wrongLines() {
		x := ours()[0]
		x.l = wrong
		answers(x)
	}
	for _, wrong := range wrongWorks() {
		x := ours()[0]
		x.w = wrong
		answers(x)
	}
	many := make([]int, 100000)
	big := given{l: api.StoneLine{Marks: make([]api.StoneMark, 100000), Gaps: make([]api.Span, 100000)}, t: api.StoneTruth{Numbers: many}, w: api.StoneWork{Faults: make([]api.StoneFault, 100000)}, faults: many, plan: many}
	answers(big)
	big.l, big.w = lineA(), workW()
	answers(big)
	answers(given{})
}

// R2: with an error, all other results are zero values.
func TestErrorsHaveNoResults(t *testing.T) {
	check := func(x given) {
		for i, y := range answers(x) {
			if y[len(y)-1] == api.OK {
				continue
			}
			for _, z := range y[:len(y)-1] {
				if v := reflect.ValueOf(z); !v.IsZero() && !(v.Kind() == reflect.Slice && v.Len() == 0) {
					t.Error(i, x, y)
				}
			}
		}
	}
	for _, x := range ours() {
		check(x)
		for _, wrong := range wrongLines() {
			y := x
			y.l = wrong
			check(y)
		}
		for _, wrong := range wrongWorks() {
			y := x
			y.w = wrong
			check(y)
		}
		for _, n := range list(-1, 10001, huge) {
			y := x
			y.t.Numbers, y.faults, y.plan, y.p.Lead, y.number, y.days, y.text = list(n), list(n), list(n), n, n, n, "stones 1 1 2 2\nend 000\n"
			check(y)
		}
	}
}

// R4, R8: no argument is changed, no result shares memory with another one, and equal calls have equal results.
func TestNothingIsKept(t *testing.T) {
	for i, x := range ours() {
		before := x.clone()
		once := answers(x)
		again := answers(x.clone())
		if !reflect.DeepEqual(x, before) || !reflect.DeepEqual(once, again) {
			t.Error(i, x, once, again)
		}
		for _, y := range once {
			spoil(y[0])
		}
		if !reflect.DeepEqual(x, before) || !reflect.DeepEqual(again, answers(x)) {
			t.Error("results share memory", i, x, before)
		}
	}
}

// spoil overwrites the memory of a result.
func spoil(x any) {
	switch y := x.(type) {
	case []int:
		for i := range y {
			y[i] = -77
		}
	case []api.StoneWord:
		for i := range y {
			y[i] = -77
		}
	case []api.Span:
		for i := range y {
			y[i].Low = -77
		}
	case [][]int:
		for _, numbers := range y {
			spoil(append(numbers, -77))
			spoil(numbers)
		}
	case api.StoneLine:
		spoil(y.Gaps)
		for i := range y.Marks {
			y.Marks[i].Text = "spoilt"
		}
	}
}

// R4: no numbering shares memory with another one, nor with room behind it.
func TestNumberingsAreApart(t *testing.T) {
	all, _ := stone.All(line("? o? -", 1, 1, 18, 20, 1, 1, 1, 9))
	again, _ := stone.All(line("? o? -", 1, 1, 18, 20, 1, 1, 1, 9))
	for k := range all {
		spoil(append(all[k], -77, -77, -77))
		spoil(all[k])
		if !sameLists(all[k+1:], again[k+1:]) {
			t.Error(k, all, again)
		}
	}
}

// R4: lists with room behind them are not written to.
func TestRoomBehindLists(t *testing.T) {
	x := given{l: lineA(), w: workW(), t: api.StoneTruth{Numbers: list(7, 8, 11, 13, 77, 77), Turn: 50}, faults: list(0, 2, 77, 77), plan: list(0, 1, 1, 77, 77), number: 12, days: 12, text: smallText}
	x.l.Marks, x.l.Gaps = append(x.l.Marks, marks("77 o77")...), append(x.l.Gaps, spans(77, 77, 77, 77)...)
	x.w.Faults = append(x.w.Faults, work(5, 2, 1, 2, 7, 7, 7, 7, 7, 7, 7, 7).Faults...)
	whole := x.clone()
	y := x
	y.l.Marks, y.l.Gaps, y.w.Faults = x.l.Marks[:4], x.l.Gaps[:3], x.w.Faults[:3]
	y.t.Numbers, y.faults, y.plan = x.t.Numbers[:4], x.faults[:2], x.plan[:3]
	for i, z := range answers(y) {
		if e := z[len(z)-1]; e != api.OK {
			t.Error(i, z)
		}
	}
	if !reflect.DeepEqual(x, whole) {
		t.Error(x, whole)
	}
}

// R3: nil and empty lists are the same.
func TestNilAndEmpty(t *testing.T) {
	x := given{w: work(5, 2, 1, 2), days: 5}
	y := x.clone()
	y.l.Marks, y.l.Gaps, y.t.Numbers, y.w.Faults, y.faults, y.plan = []api.StoneMark{}, []api.Span{}, list(), []api.StoneFault{}, list(), list()
	if !reflect.DeepEqual(answers(x), answers(y)) {
		t.Error(answers(x), answers(y))
	}
	x.l, y.l = lineA(), lineA()
	if !reflect.DeepEqual(answers(x), answers(y)) {
		t.Error(answers(x), answers(y))
	}
}
