package channel_test

import (
	"math/rand/v2"
	"slices"

	"quinaria/api"
)

const huge = int(^uint(0) >> 1)

func span(low, high int) api.Span { return api.Span{Low: low, High: high} }

func list(n ...int) []int { return n }

func stretch(breadth, depth, fall, low, high int) api.ChannelStretch {
	return api.ChannelStretch{Breadth: breadth, Depth: depth, Fall: fall, Lime: span(low, high)}
}

func line(speeds []int, stretches ...api.ChannelStretch) api.ChannelLine {
	return api.ChannelLine{Speeds: speeds, Stretches: stretches}
}

func note(age, low, high int) api.ChannelNote {
	return api.ChannelNote{Age: age, Cups: span(low, high)}
}

func notes(x ...api.ChannelNote) []api.ChannelNote { return x }

func class(bears, price, stock int) api.ChannelClass {
	return api.ChannelClass{Bears: bears, Price: price, Stock: stock}
}

func classes(x ...api.ChannelClass) []api.ChannelClass { return x }

func siphon(inlet api.Span, points []api.Span, lengths ...int) api.ChannelSiphon {
	return api.ChannelSiphon{Inlet: inlet, Points: points, Lengths: lengths}
}

func points(x ...api.Span) []api.Span { return x }

// The chapter's line, siphon and classes.

func lineP() api.ChannelLine {
	return line(list(10, 20, 30), stretch(20, 30, 1, 4, 10), stretch(24, 25, 0, 0, 5), stretch(10, 20, 2, 10, 10))
}

func siphonS() api.ChannelSiphon {
	return siphon(span(100, 104), points(span(98, 100), span(60, 62), span(40, 41), span(70, 72), span(95, 96)), 10, 20, 20, 10)
}

func classesC() []api.ChannelClass {
	return classes(class(30, 1, 1000), class(50, 3, 15), class(70, 5, 50))
}

// one is a line with one stretch, that carries 7 times its cross section.
func one(x api.ChannelStretch) api.ChannelLine { return line(list(7), x) }

// fullLine is a line with as much of everything as there can be.
func fullLine() api.ChannelLine {
	return line(slices.Repeat(list(1000), 10), slices.Repeat([]api.ChannelStretch{stretch(100, 100, 9, 100, 100)}, 8)...)
}

// fullSiphon is a siphon with as many points as there can be.
func fullSiphon() api.ChannelSiphon {
	return siphon(span(1000, 1000), slices.Repeat(points(span(0, 1000)), 8), slices.Repeat(list(100), 7)...)
}

// wrongLines are lines each of which is not as defined in one way.
func wrongLines() []api.ChannelLine {
	good := stretch(10, 20, 0, 0, 5)
	wrong := []api.ChannelLine{
		{}, line(nil, good), line(list(7)), line(slices.Repeat(list(7), 11), good),
		line(list(7), slices.Repeat([]api.ChannelStretch{good}, 9)...),
		line(list(0), good), line(list(1001), good), line(list(-1), good), line(list(7, 0), good), line(list(huge), good), line(list(-huge-1), good),
	}
	for _, x := range []api.ChannelStretch{
		stretch(0, 20, 0, 0, 5), stretch(101, 20, 0, 0, 5), stretch(10, 0, 0, 0, 5), stretch(10, 101, 0, 0, 5),
		stretch(10, 20, -1, 0, 5), stretch(10, 20, 1, 0, 5), stretch(10, 20, 0, -1, 5), stretch(10, 20, 0, 0, 101), stretch(10, 20, 0, 6, 5),
		stretch(10, 20, 0, 101, 101), stretch(10, 20, 0, -2, -1), stretch(huge, huge, 0, 0, 5), stretch(-huge-1, 20, 0, 0, 5), stretch(-10, -20, 0, 0, 5),
		stretch(10, 20, huge, 0, 5), stretch(10, 20, -huge-1, 0, 5), stretch(10, 20, 0, -huge-1, huge), stretch(10, 20, 0, huge, huge), {},
	} {
		wrong = append(wrong, one(x), line(list(7), good, x))
	}
	return wrong
}

// wrongSiphons are siphons each of which is not as defined in one way.
func wrongSiphons() []api.ChannelSiphon {
	good := span(5, 10)
	wrong := []api.ChannelSiphon{
		{}, siphon(good, nil), siphon(good, points(good)), siphon(good, points(good, good)), siphon(good, points(good, good), 1, 1),
		siphon(good, points(good, good, good), 1), siphon(good, slices.Repeat(points(good), 9), slices.Repeat(list(1), 8)...),
	}
	for _, x := range points(span(-1, 5), span(6, 5), span(5, 1001), span(1001, 1001), span(-huge-1, huge), span(huge, huge), span(huge, -huge-1)) {
		wrong = append(wrong, siphon(x, points(good, good), 1), siphon(good, points(x, good), 1), siphon(good, points(good, x), 1))
	}
	for _, n := range list(0, 101, -1, huge, -huge-1) {
		wrong = append(wrong, siphon(good, points(good, good), n), siphon(good, points(good, good, good), 1, n))
	}
	return wrong
}

// wrongClasses are lists of classes each of which is not as defined in one way.
func wrongClasses() [][]api.ChannelClass {
	good := class(1000, 0, 1000)
	wrong := [][]api.ChannelClass{nil, {}, slices.Repeat(classes(good), 5)}
	for _, x := range classes(
		class(0, 1, 1), class(1001, 1, 1), class(-1, 1, 1), class(1, -1, 1), class(1, 101, 1), class(1, 1, -1), class(1, 1, 1001),
		class(huge, 1, 1), class(1, huge, 1), class(1, 1, huge), class(-huge-1, 1, 1), class(1, -huge-1, 1), class(1, 1, -huge-1),
	) {
		wrong = append(wrong, classes(x), classes(good, x))
	}
	return wrong
}

// cups returns what a stretch carries with a rate at an age, as the chapter defines it.
func cups(l api.ChannelLine, number, age, rate int) int {
	x := l.Stretches[number]
	broad, deep := x.Breadth, x.Depth
	for range rate * age / 100 {
		broad, deep = broad-2, deep-1
	}
	if broad <= 0 || deep <= 0 {
		return 0
	}
	return broad * deep * l.Speeds[x.Fall]
}

// cupsOf returns what a stretch carries at an age, with each of its rates.
func cupsOf(l api.ChannelLine, number, age int) []int {
	var all []int
	x := l.Stretches[number].Lime
	for rate := x.Low; rate <= x.High; rate++ {
		all = append(all, cups(l, number, age, rate))
	}
	return all
}

// surely reports whether a stretch carries a need at an age with each of its rates.
func surely(l api.ChannelLine, number, age, need int) bool {
	return slices.Min(cupsOf(l, number, age)) >= need
}

// latest returns the greatest age for a need, or -1, by trying all ages.
func latest(l api.ChannelLine, number, need int) int {
	greatest := -1
	for age := range 201 {
		if surely(l, number, age, need) {
			greatest = age
		}
	}
	return greatest
}

// lists goes through all lists with an element from each set, in lexicographic order if the sets are in order.
func lists[T any](sets [][]T, try func([]T)) {
	var goOn func(chosen []T)
	goOn = func(chosen []T) {
		if len(chosen) == len(sets) {
			try(slices.Clone(chosen))
			return
		}
		for _, x := range sets[len(chosen)] {
			goOn(append(chosen, x))
		}
	}
	goOn(nil)
}

// numbersOf returns all numbers of a span.
func numbersOf(x api.Span) []int {
	var all []int
	for n := x.Low; n <= x.High; n++ {
		all = append(all, n)
	}
	return all
}

// within returns a span somewhere from 0 to most, with at most so many numbers.
func within(r *rand.Rand, most, numbers int) api.Span {
	low := r.IntN(most + 1)
	return span(low, min(most, low+r.IntN(numbers)))
}

// someLine returns a line with up to so many stretches whose rates are up to so many numbers.
func someLine(r *rand.Rand, stretches, rates int) api.ChannelLine {
	var l api.ChannelLine
	for range 1 + r.IntN(4) {
		l.Speeds = append(l.Speeds, 1+r.IntN(40))
	}
	for range 1 + r.IntN(stretches) {
		lime := within(r, []int{100, 20}[r.IntN(2)], rates)
		l.Stretches = append(l.Stretches, stretch(1+r.IntN(50), 1+r.IntN(50), r.IntN(len(l.Speeds)), lime.Low, lime.High))
	}
	return l
}

// someAges returns an age for each stretch of a line.
func someAges(r *rand.Rand, l api.ChannelLine) []int {
	ages := make([]int, len(l.Stretches))
	for i := range ages {
		ages[i] = r.IntN([]int{201, 60}[r.IntN(2)])
	}
	return ages
}

// someNeed returns a need that is near to what some stretch can carry.
func someNeed(r *rand.Rand, l api.ChannelLine) int {
	number := r.IntN(len(l.Stretches))
	all := cupsOf(l, number, r.IntN(120))
	return max(1, all[r.IntN(len(all))]+r.IntN(3)-1)
}

// someSiphon returns a siphon with up to so many points, with heights that are small.
func someSiphon(r *rand.Rand, most int) api.ChannelSiphon {
	s := siphon(within(r, 20, 4), points(within(r, 20, 4)))
	for range 1 + r.IntN(most-1) {
		s.Points = append(s.Points, within(r, 20, 4))
		s.Lengths = append(s.Lengths, 1+r.IntN(4))
	}
	return s
}

// someClasses returns classes for such siphons.
func someClasses(r *rand.Rand) []api.ChannelClass {
	var c []api.ChannelClass
	for range 1 + r.IntN(4) {
		c = append(c, class(1+r.IntN(22), r.IntN(5), r.IntN(12)))
	}
	return c
}

// sameLine reports whether two lines are the same value.
func sameLine(a, b api.ChannelLine) bool {
	return slices.Equal(a.Speeds, b.Speeds) && slices.Equal(a.Stretches, b.Stretches)
}

// isNone reports whether a line is the zero value.
func isNone(l api.ChannelLine) bool { return sameLine(l, api.ChannelLine{}) }
