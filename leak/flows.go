package leak

import (
	"slices"

	"quinaria/api"
)

// places is how many amounts of water are compared at once, at most: none, and
// what flows at all points in each of two truths.
const places = 1 + 2*api.LeakPoints

const (
	// none is the place of no water.
	none = 0
	// first is the place of the point 0 in the only truth, or in the first one.
	first = 1
)

// flows is amounts of water with the greatest differences: by most[a][b], at
// most, there is more at the place b than at the place a. All whole numbers
// between the least and the greatest difference of two places are possible, as
// only differences are bounded, and by whole numbers.
type flows struct {
	size int
	most [places][places]int
}

// misfit is what a search gives up with: a truth that it looks at does not fit.
type misfit struct{}

// anyFlows returns flows at some points, of which nothing is known but what a flow can be.
func anyFlows(points int) flows {
	f := flows{size: first + points}
	for a := range f.size {
		for b := range f.size {
			if a != b && b != none {
				f.most[a][b] = api.LeakMost
			}
		}
	}
	return f
}

// follow takes it as true that a line, whose point 0 is at a place, has just some stretches tapped.
func (f *flows) follow(l api.LeakLine, tapped []int, place int) {
	for i, gives := range l.Gives {
		less := api.Span{Low: gives, High: gives}
		if slices.Contains(tapped, i) {
			less = api.Span{Low: gives + l.Least, High: gives + l.Most}
		}
		f.bound(place+i+1, place+i, less)
	}
	for _, x := range l.Counts {
		f.bound(none, place+x.Point, api.Span{Low: x.Low, High: x.High})
	}
}

// bound takes it as true between which bounds there is more at the place b than at the place a.
func (f *flows) bound(a, b int, more api.Span) {
	f.limit(a, b, more.High)
	f.limit(b, a, -more.Low)
}

// limit takes it as true that there is at most so much more at the place b than
// at the place a, or gives up if that cannot be.
func (f *flows) limit(a, b, most int) {
	must(f.most[b][a]+most >= 0, misfit{})
	if most >= f.most[a][b] {
		return
	}
	// What is read here does not change meanwhile: a way that goes twice from a to b is no shorter.
	for x := range f.size {
		for y := range f.size {
			f.most[x][y] = min(f.most[x][y], f.most[x][a]+most+f.most[b][y])
		}
	}
}

// least returns how much more there is at the place b than at the place a, at least.
func (f *flows) least(a, b int) int { return -f.most[b][a] }

// greatest returns how much more there is at the place b than at the place a, at most.
func (f *flows) greatest(a, b int) int { return f.most[a][b] }

// must gives up with a value if something is not right.
func must(right bool, otherwise any) {
	if !right {
		panic(otherwise)
	}
}

// attempt returns the error with which a search gives up, or OK if it does not.
func attempt(search func()) (e api.Errno) {
	defer func() {
		switch recover().(type) {
		case misfit:
			e = api.ErrRule
		case noBook:
			e = api.ErrText
		}
	}()
	search()
	return api.OK
}
