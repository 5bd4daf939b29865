package channel_test

import (
	"math/rand/v2"
	"reflect"
	"slices"
	"testing"

	"quinaria/api"
	"quinaria/channel"
)

// given is the arguments of all functions.
type given struct {
	l       api.ChannelLine
	ages    []int
	notes   []api.ChannelNote
	s       api.ChannelSiphon
	classes []api.ChannelClass
	choice  []int
	a, b, c int
}

// clone returns arguments in memory of their own.
func (x given) clone() given {
	x.l = line(slices.Clone(x.l.Speeds), slices.Clone(x.l.Stretches)...)
	x.s = siphon(x.s.Inlet, slices.Clone(x.s.Points), slices.Clone(x.s.Lengths)...)
	x.ages, x.notes = slices.Clone(x.ages), slices.Clone(x.notes)
	x.classes, x.choice = slices.Clone(x.classes), slices.Clone(x.choice)
	return x
}

// answers returns what all functions return for some arguments.
func answers(x given) []any {
	carries, e0 := channel.Carries(x.l, x.a, x.b)
	whole, e1 := channel.Line(x.l, x.ages)
	narrow, e2 := channel.Narrowest(x.l, x.ages)
	age, e3 := channel.Latest(x.l, x.a, x.c)
	widths, e4 := channel.Widen(x.l, x.ages, x.c)
	plan, e5 := channel.Plan(x.l, x.ages, x.c, x.b)
	lime, e6 := channel.Lime(x.l, x.a, x.notes)
	pressures, e7 := channel.Pressures(x.s)
	flows, e8 := channel.Flows(x.s)
	bursts, e9 := channel.Bursts(x.s, x.classes, x.choice)
	choice, price, e10 := channel.Pipes(x.s, x.classes)
	text, e11 := channel.Print(x.l)
	read, e12 := channel.Read(text)
	return []any{
		channel.Check(x.l), carries, e0, whole, e1, narrow, e2, age, e3, widths, e4, plan, e5, lime, e6,
		pressures, e7, flows, e8, bursts, e9, choice, price, e10, text, e11, read, e12,
	}
}

// ours are some arguments with which all functions have results.
func ours() []given {
	return []given{
		{lineP(), list(50, 0, 0), notes(note(50, 5000, 8000)), siphonS(), classesC(), list(0, 2, 2, 1), 0, 40, 5000},
		{fullLine(), make([]int, 8), notes(note(0, 0, 10000000)), fullSiphon(), classes(class(1000, 1, 1000)), make([]int, 7), 7, 0, 10000000},
		{one(stretch(10, 20, 0, 0, 5)), list(9), notes(note(9, 1400, 1400)), siphonS(), classesC(), list(0, 0, 0, 0), 0, 20, 1000},
	}
}

// P2.1 to P2.8, R5: every function answers, whatever the arguments are.
func TestAnyValue(t *testing.T) {
	values := []int{-huge - 1, -1, 0, 1, 2, 8, 40, 41, 100, 200, 201, 10000000, 10000001, huge - 1, huge}
	for i, x := range ours() {
		for _, a := range values {
			for _, b := range values {
				x.a, x.b, x.c = a, b, values[(a&7+b&7)%len(values)]
				x.ages, x.choice = slices.Repeat(list(b), len(x.ages)), slices.Repeat(list(a), len(x.choice))
				x.notes = notes(note(a, b, x.c))
				answers(x)
			}
		}
		for _, l := range wrongLines() {
			x.l = l
			answers(x)
		}
		for _, s := range wrongSiphons() {
			x.s = s
			answers(x)
		}
		x = ours()[i]
		for _, c := range wrongClasses() {
			x.classes = c
			answers(x)
		}
	}
	answers(given{})
}

// R4, R8: no argument is changed, no result shares memory with another one, and equal calls have equal results.
func TestNothingIsKept(t *testing.T) {
	for i, x := range ours() {
		before := x.clone()
		first := answers(x)
		again := answers(x.clone())
		if !reflect.DeepEqual(x, before) || !reflect.DeepEqual(first, again) {
			t.Error(i, x, first, again)
		}
		for _, y := range first {
			spoil(y)
		}
		if !reflect.DeepEqual(x, before) || !reflect.DeepEqual(again, answers(x)) {
			t.Error("results share memory", i, x, before)
		}
	}
}

// spoil overwrites the memory of a result.
func spoil(x any) {
	switch y := x.(type) {
	case []int:
		for i := range y {
			y[i] = -77
		}
	case []api.Span:
		for i := range y {
			y[i] = span(-77, -77)
		}
	case api.ChannelLine:
		for i := range y.Speeds {
			y.Speeds[i] = -77
		}
		for i := range y.Stretches {
			y.Stretches[i] = stretch(-77, -77, -77, -77, -77)
		}
	}
}

// R3: nil and empty lists are the same.
func TestNilAndEmpty(t *testing.T) {
	if y, e := channel.Lime(lineP(), 0, notes()); y != span(4, 10) || e != api.OK {
		t.Error(y, e)
	}
	if y, e := channel.Lime(lineP(), 0, []api.ChannelNote{}); y != span(4, 10) || e != api.OK {
		t.Error(y, e)
	}
	if y, e := channel.Line(lineP(), []int{}); y != span(0, 0) || e != api.ErrArg {
		t.Error(y, e)
	}
	empty := given{l: line([]int{}, []api.ChannelStretch{}...), s: siphon(span(0, 0), points(), []int{}...), ages: []int{}}
	if !reflect.DeepEqual(answers(empty), answers(given{})) {
		t.Error(answers(empty))
	}
}

// isWithin reports whether a span lies within another one.
func isWithin(a, b api.Span) bool { return a.Low >= b.Low && a.High <= b.High }

// P2.9: lime that is known better never makes bounds wider.
func TestBetterLime(t *testing.T) {
	r := rand.New(rand.NewPCG(2, 9))
	for range 300 {
		l := someLine(r, 4, 60)
		ages := someAges(r, l)
		number := r.IntN(len(ages))
		better := line(l.Speeds, slices.Clone(l.Stretches)...)
		x := &better.Stretches[number].Lime
		x.Low += r.IntN(x.High - x.Low + 1)
		x.High -= r.IntN(x.High - x.Low + 1)
		a, e := channel.Carries(better, number, ages[number])
		b, f := channel.Carries(l, number, ages[number])
		if !isWithin(a, b) || e != api.OK || f != api.OK {
			t.Error(l, better, number, ages, a, b)
		}
		a, e = channel.Line(better, ages)
		b, f = channel.Line(l, ages)
		if !isWithin(a, b) || e != api.OK || f != api.OK {
			t.Error(l, better, ages, a, b)
		}
	}
}

// P2.9: a count more never makes the bounds of a rate wider.
func TestMoreCounts(t *testing.T) {
	r := rand.New(rand.NewPCG(2, 10))
	for range 300 {
		l := someLine(r, 1, 60)
		all := cupsOf(l, 0, r.IntN(201))
		before, counts := l.Stretches[0].Lime, notes()
		for range 4 {
			counted := all[r.IntN(len(all))]
			counts = append(counts, note(r.IntN(201), max(0, counted-100), counted+1000))
			y, e := channel.Lime(l, 0, counts)
			if e == api.ErrRule {
				break
			}
			if !isWithin(y, before) || e != api.OK {
				t.Error(l, counts, y, before, e)
			}
			before = y
		}
	}
}

// P2.9: a class more never makes the price greater, wherever it is put.
func TestMoreClasses(t *testing.T) {
	r := rand.New(rand.NewPCG(2, 11))
	for range 300 {
		s, c := someSiphon(r, 6), someClasses(r)
		_, price, e := channel.Pipes(s, c)
		if e != api.OK || len(c) == api.ChannelClasses {
			continue
		}
		more := slices.Insert(slices.Clone(c), r.IntN(len(c)+1), class(1+r.IntN(22), r.IntN(5), r.IntN(12)))
		if _, lesser, e := channel.Pipes(s, more); lesser > price || e != api.OK {
			t.Error(s, c, more, price, lesser, e)
		}
	}
}

// P2.9: a lesser need never makes a last year earlier.
func TestLesserNeed(t *testing.T) {
	r := rand.New(rand.NewPCG(2, 12))
	for range 300 {
		l := someLine(r, 1, 60)
		need := someNeed(r, l)
		greater, e := channel.Latest(l, 0, need)
		if e != api.OK || need == 1 {
			continue
		}
		if y, e := channel.Latest(l, 0, 1+r.IntN(need-1)); y < greater || e != api.OK {
			t.Error(l, need, y, greater, e)
		}
	}
}
