package nozzle_test

import (
	"math/rand/v2"
	"reflect"
	"slices"
	"testing"

	"quinaria/api"
	"quinaria/nozzle"
)

// given is the arguments of all functions.
type given struct {
	t      api.NozzleTable
	in     api.NozzleSystem
	set    []int
	spouts []api.NozzleSpout
	f      api.NozzleFind
	count  api.Span
	a, b   int
}

// clone returns arguments in memory of their own.
func (x given) clone() given {
	x.t = table(x.t.Draw, slices.Clone(x.t.Rows)...)
	x.set, x.spouts = slices.Clone(x.set), slices.Clone(x.spouts)
	return x
}

// answers returns what all functions return for some arguments.
func answers(x given) []any {
	gives, e0 := nozzle.Gives(x.t, x.set)
	counts, e1 := nozzle.Counts(x.t, x.in, x.set)
	set, e2 := nozzle.Set(x.t, x.in, x.a)
	fill, left, e3 := nozzle.Fill(x.t, x.a)
	turn, e4 := nozzle.Turn(x.t, x.in, x.a)
	sold, e5 := nozzle.Sold(x.t, x.f)
	best, gain, e6 := nozzle.Gain(x.t, x.in, x.set)
	away, got, most, e7 := nozzle.Most(x.t, x.in)
	fair, e8 := nozzle.Fair(x.t)
	mended, off, e9 := nozzle.Mend(x.t, x.in)
	keeps, e10 := nozzle.Keeps(x.t)
	flow, e11 := nozzle.Flow(x.t, x.spouts)
	words, e12 := nozzle.Suspects(x.t, x.set, x.count, x.b)
	widened, e13 := nozzle.Widened(x.t, x.set, x.count)
	text, e14 := nozzle.Print(x.t)
	read, e15 := nozzle.Read(text)
	return []any{
		nozzle.Check(x.t), gives, e0, counts, e1, set, e2, fill, left, e3, turn, e4, sold, e5, best, gain, e6, away, got, most, e7,
		fair, e8, mended, off, e9, keeps, e10, flow, e11, words, e12, widened, e13, text, e14, read, e15,
	}
}

// ours are some arguments with which all functions have results.
func ours() []given {
	find := find(span(0, huge), span(0, huge), span(0, huge))
	return []given{
		{tableT(), api.NozzleFirst, list(0, 0, 1), spouts(0, 1, 2, 0), find, span(0, 10000), 20, 1},
		{tableT(), api.NozzleSecond, list(1, 1), spouts(1, 2), find, span(0, 10000), 16, 2},
		{halfFair(), api.NozzleSecond, list(2), spouts(0, 2), find, span(0, 30), 4, 2},
		{fullTable(), api.NozzleFirst, list(0, 2, 4, 6, 8, 11), slices.Repeat(spouts(11, 0), 6), find, span(6000, 6000), 360, 2},
	}
}

// P3.1 to P3.6, R5: every function answers, whatever the arguments are.
func TestAnyValue(t *testing.T) {
	values := []int{-huge - 1, -1, 0, 1, 2, 3, 6, 12, 60, 360, 361, 10000, 10001, huge - 1, huge}
	for i, x := range ours() {
		for _, a := range values {
			for _, b := range values {
				c := values[(a&7+b&7)%len(values)]
				x.a, x.b, x.in = a, b, api.NozzleSystem(c)
				x.set, x.spouts = list(a, b, c), spouts(a, b, b, c)
				x.count, x.f = span(a, b), find(span(a, b), span(b, c), span(c, a))
				answers(x)
			}
		}
		x = ours()[i]
		for _, wrong := range wrongTables() {
			x.t = wrong
			answers(x)
		}
		x = ours()[i]
		for _, set := range wrongSets() {
			x.set = set
			answers(x)
		}
	}
	answers(given{})
}

// R4, R8: no argument is changed, no result shares memory with another one, and equal calls have equal results.
func TestNothingIsKept(t *testing.T) {
	for i, x := range ours() {
		before := x.clone()
		first := answers(x)
		again := answers(x.clone())
		if !reflect.DeepEqual(x, before) || !reflect.DeepEqual(first, again) {
			t.Error(i, x, first, again)
		}
		for _, y := range first {
			spoil(y)
		}
		if !reflect.DeepEqual(x, before) || !reflect.DeepEqual(again, answers(x)) {
			t.Error("results share memory", i, x, before)
		}
	}
}

// spoil overwrites the memory of a result.
func spoil(x any) {
	switch y := x.(type) {
	case []int:
		for i := range y {
			y[i] = -77
		}
	case []api.NozzleWord:
		for i := range y {
			y[i] = -77
		}
	case api.NozzleTable:
		for i := range y.Rows {
			y.Rows[i] = row(-77, -77, -77)
		}
	}
}

// R4: both sets of Most share no memory.
func TestSetsAreApart(t *testing.T) {
	away, got, _, _ := nozzle.Most(tableT(), api.NozzleFirst)
	for i := range away {
		away[i] = -77
	}
	if away = append(away, -77, -77); !slices.Equal(got, list(2, 2, 2)) {
		t.Error(away, got)
	}
}

// R3: nil and empty lists are the same.
func TestNilAndEmpty(t *testing.T) {
	for _, x := range ours() {
		x.set, x.spouts = nil, nil
		y := x
		y.set, y.spouts = []int{}, []api.NozzleSpout{}
		if !reflect.DeepEqual(answers(x), answers(y)) {
			t.Error(answers(x), answers(y))
		}
	}
	if !reflect.DeepEqual(answers(given{t: api.NozzleTable{Rows: []api.NozzleRow{}}}), answers(given{})) {
		t.Error(answers(given{}))
	}
}

// withRow returns a table with a row more, and at which place.
func withRow(r *rand.Rand, t api.NozzleTable) (api.NozzleTable, int) {
	at := r.IntN(len(t.Rows) + 1)
	more := table(t.Draw, slices.Insert(slices.Clone(t.Rows), at, row(1+r.IntN(9), 1+r.IntN(9), 1+r.IntN(60)))...)
	return more, at
}

// shifted returns a set as it is with a row more at a place.
func shifted(set []int, at int) []int {
	out := slices.Clone(set)
	for i, n := range out {
		if n >= at {
			out[i]++
		}
	}
	return out
}

// P3.7: one row more never makes a gain less, wherever it is put.
func TestMoreRowsGainMore(t *testing.T) {
	r := rand.New(rand.NewPCG(3, 11))
	for range 200 {
		x := someTable(r, 6)
		more, at := withRow(r, x)
		set := someSet(r, x, 6)
		for _, in := range bothSystems() {
			_, before, e := nozzle.Gain(x, in, set)
			_, after, f := nozzle.Gain(more, in, shifted(set, at))
			if after < before || e != api.OK || f != api.OK {
				t.Error(x, more, in, set, before, after, e, f)
			}
			_, _, before, e = nozzle.Most(x, in)
			_, _, after, f = nozzle.Most(more, in)
			if after < before || e == api.OK && f != api.OK {
				t.Error(x, more, in, before, after, e, f)
			}
		}
		fair, _ := nozzle.Fair(x)
		if still, e := nozzle.Fair(more); still && !fair || e != api.OK {
			t.Error(x, more, still, e)
		}
	}
}

// P3.7: one row more never makes the fewest nozzles more, nor bounds narrower.
func TestMoreRowsCountMore(t *testing.T) {
	r := rand.New(rand.NewPCG(3, 12))
	for range 60 {
		x := someTable(r, 6)
		more, _ := withRow(r, x)
		for _, in := range bothSystems() {
			for range 20 {
				units := r.IntN(40)
				before, e := nozzle.Set(x, in, units)
				after, f := nozzle.Set(more, in, units)
				if e == api.OK && (len(after) > len(before) || f != api.OK) {
					t.Error(x, more, in, units, before, after, f)
				}
				narrow, e := nozzle.Turn(x, in, units)
				wide, f := nozzle.Turn(more, in, units)
				if e == api.OK && (wide.Low > narrow.Low || wide.High < narrow.High || f != api.OK) {
					t.Error(x, more, in, units, narrow, wide, f)
				}
			}
		}
	}
}

// P3.7: a wider count never makes sure what was not.
func TestWiderCounts(t *testing.T) {
	r := rand.New(rand.NewPCG(3, 13))
	for range 600 {
		x := someTable(r, 6)
		set := someSet(r, x, 6)
		cups, _ := nozzle.Gives(x, set)
		count := someSpan(r, cups+r.IntN(20), 10000)
		wide := span(max(0, count.Low-r.IntN(5)), min(10000, count.High+r.IntN(5)))
		for most := range 3 {
			before, e := nozzle.Suspects(x, set, count, most)
			after, f := nozzle.Suspects(x, set, wide, most)
			if e != api.OK {
				continue
			}
			if f != api.OK {
				t.Error(x, set, count, wide, most, f)
			}
			for k := range before {
				if after[k] != before[k] && after[k] != may {
					t.Error(x, set, count, wide, most, before, after)
				}
			}
		}
		before, e := nozzle.Widened(x, set, count)
		after, f := nozzle.Widened(x, set, wide)
		if e == api.OK && (after > before || f != api.OK) {
			t.Error(x, set, count, wide, before, after, f)
		}
	}
}
