package grant_test

import (
	"math/rand/v2"
	"slices"
	"testing"

	"quinaria/api"
	"quinaria/grant"
)

const (
	never  = api.GrantNever
	may    = api.GrantMay
	surely = api.GrantSurely
)

// ourTorn returns registers with torn places: first the chapter's both examples, then others, with how many truths they have.
func ourTorn() []tornBook {
	h := bookH()
	dies := place(3, die(100, 0, 3), die(100, 0, 1))
	lost := bookOf(list(0), give(5, 0, first, 20), give(5, 1, first, 10), die(6, 0, 1), renew(7, 0, 1))
	return []tornBook{
		{h, places(dies), 2}, {h, places(place(2, h.Events[2], ask(30, 3, first, 10)), dies), 4},
		{h, nil, 1}, {bookOf(nil), nil, 1}, {h, places(place(3, die(100, 0, 3))), 1}, {h, places(place(3, die(100, 0, 3), die(100, 0, 3), die(100, 0, 3), die(100, 0, 3))), 4},
		{h, places(place(2, ask(19, 2, first, 25), ask(20, 2, first, 25), ask(100, 2, first, 25), ask(101, 2, first, 25))), 2},
		{h, places(place(1, attach(30, 0, first, 10), attach(10, 0, first, 10), attach(31, 0, first, 10)), place(2, ask(30, 2, first, 25), ask(20, 2, first, 25))), 3},
		{lost, places(place(2, die(6, 0, 1), die(6, 0, 2), die(8, 0, 1))), 1}, {lost, places(place(2, die(6, 0, 1), die(6, 0, 2)), place(3, renew(7, 0, 1), renew(7, 0, 2), renew(37, 0, 1), give(7, 2, first, 5))), 4},
		{instead(h, 0, ask(10, 0, first, 360)), places(place(0, give(10, 0, first, 20), ask(10, 0, first, 360))), 1},
		{lost, places(place(0, give(5, 0, first, 20), give(5, 0, first, 15)), place(1, give(5, 1, first, 10), give(5, 1, first, 5), give(5, 1, first, 40)), place(2, die(6, 0, 1), die(7, 0, 1), die(6, 1, 0), die(5, 0, 1))), 12},
	}
}

// tornBook is a register with torn places, and how many truths it has.
type tornBook struct {
	b      api.GrantBook
	torn   []api.GrantTorn
	truths int
}

// falseTorn returns registers with torn places that have no truth.
func falseTorn() []tornBook {
	h := bookH()
	return []tornBook{
		{with(h, renew(131, 0, 3)), nil, 0}, {h, places(place(3, die(29, 0, 3))), 0}, {h, places(place(0, give(10, 0, first, 7), give(10, 0, first, 50))), 0}, {fullBook(), places(place(0, die(0, 0, 1))), 0},
		{h, places(place(0, give(10, 3, first, 20)), place(3, die(100, 3, 3))), 0}, {h, places(place(1, attach(31, 0, first, 10)), place(2, ask(29, 2, first, 25), ask(30, 2, first, 25))), 0},
	}
}

// wrongTorn returns torn places that are not as defined, in the register h.
func wrongTorn() [][]api.GrantTorn {
	x := die(100, 0, 3)
	wrong := [][]api.GrantTorn{
		places(place(3)), places(place(3, x, x, x, x, x)), places(place(3, x), place(3, x)), places(place(3, x), place(2, x)), places(place(0, x), place(1, x), place(2, x), place(3, x)),
		places(place(4, x)), places(place(-1, x)), places(place(huge, x)), places(place(-huge-1, x)), places(place(2, x), place(4, x)), places(place(0, x), place(1)), places(api.GrantTorn{}), make([]api.GrantTorn, 100000),
	}
	for _, y := range wrongEvents() {
		wrong = append(wrong, places(place(3, y)), places(place(0, x), place(3, x, y)))
	}
	return wrong
}

// P6.6: the chapter's example, places without a truth, options that are alike, and days that are out of order.
func TestTruths(t *testing.T) {
	for i, x := range append(ourTorn(), falseTorn()...) {
		if y, e := grant.Truths(x.b, x.torn); y != x.truths || e != api.OK {
			t.Error(i, y, e)
		}
	}
	for i, torn := range wrongTorn() {
		if y, e := grant.Truths(bookH(), torn); y != 0 || e != api.ErrArg {
			t.Error(i, torn, y, e)
		}
	}
	for i, b := range wrongBooks() {
		if y, e := grant.Truths(b, places(place(0, die(0, 0, 1)))); y != 0 || e != api.ErrArg {
			t.Error(i, y, e)
		}
	}
}

// P6.6: the chapter's examples, grants that are open, or have ended, or are not there, and errors in their order.
func TestMay(t *testing.T) {
	all := ourTorn()
	both, alone, lost := all[1], all[4], all[9]
	for i, x := range []struct {
		t                  tornBook
		grant, person, day int
		want               api.GrantWord
	}{
		{all[0], 1, 3, 100, may}, {all[0], 1, 0, 100, never}, {all[0], 1, 0, 99, surely}, {all[0], 1, 1, 100, may}, {all[0], 1, 2, 100, never}, {all[0], 0, 3, 100, never}, {all[0], 0, 0, 99, surely}, {all[0], 0, 0, 100, never},
		{all[0], 2, 2, 130, never}, {all[0], 2, 2, 131, surely}, {all[0], 2, 2, 36500, surely}, {all[0], 3, 2, 131, never}, {all[0], 12, 0, 36500, never}, {all[0], 0, 0, 9, never}, {all[0], 0, 0, 0, never},
		{both, 2, 3, 30, may}, {both, 2, 2, 30, never}, {both, 2, 2, 131, may}, {both, 2, 3, 29, never}, {both, 0, 0, 30, surely},
		{alone, 1, 3, 100, surely}, {alone, 1, 1, 100, never}, {all[2], 1, 3, 100, surely}, {all[3], 0, 0, 0, never}, {all[8], 0, 1, 7, surely}, {all[8], 0, 1, 6, never},
		{lost, 0, 1, 7, may}, {lost, 0, 2, 7, may}, {lost, 1, 1, 7, surely}, {lost, 2, 2, 7, may}, {lost, 0, 0, 5, surely},
	} {
		if y, e := grant.May(x.t.b, x.t.torn, x.grant, x.person, x.day); y != x.want || e != api.OK {
			t.Error(i, y, e)
		}
	}
	wrong := func(x tornBook, n, person, day int, want api.Errno) {
		t.Helper()
		if y, e := grant.May(x.b, x.torn, n, person, day); y != 0 || e != want {
			t.Error(x, n, person, day, y, e)
		}
	}
	for _, x := range falseTorn() {
		wrong(x, 0, 0, 0, api.ErrRule)
		wrong(x, 12, 3, 36500, api.ErrRule)
	}
	for _, x := range []tornBook{both, falseTorn()[1]} {
		for _, n := range list(-1, huge, -huge-1) {
			wrong(x, n, 0, 0, api.ErrArg)
			wrong(x, 0, n, 0, api.ErrArg)
			wrong(x, 0, 0, n, api.ErrArg)
		}
		wrong(x, 13, 0, 0, api.ErrArg)
		wrong(x, 0, 4, 0, api.ErrArg)
		wrong(x, 0, 0, 36501, api.ErrArg)
	}
	for _, torn := range wrongTorn() {
		wrong(tornBook{bookH(), torn, 0}, 0, 0, 0, api.ErrArg)
	}
	for _, b := range wrongBooks() {
		wrong(tornBook{b, nil, 0}, 0, 0, 0, api.ErrArg)
	}
}

// P6.7: the chapter's example, places of which a later one is better, and errors in their order.
func TestLook(t *testing.T) {
	all := ourTorn()
	for i, x := range []struct {
		t           tornBook
		place, left int
		e           api.Errno
	}{
		{all[0], 0, 1, api.OK}, {all[1], 0, 2, api.OK}, {all[2], 0, 0, api.ErrNone}, {all[3], 0, 0, api.ErrNone}, {all[4], 0, 0, api.ErrNone}, {all[5], 0, 1, api.OK}, {all[6], 0, 1, api.OK},
		{all[7], 0, 2, api.OK}, {all[8], 0, 0, api.ErrNone}, {all[9], 0, 2, api.OK}, {all[10], 0, 0, api.ErrNone}, {all[11], 2, 4, api.OK},
	} {
		if y, n, e := grant.Look(x.t.b, x.t.torn); y != x.place || n != x.left || e != x.e {
			t.Error(i, y, n, e)
		}
	}
	for i, x := range falseTorn() {
		if y, n, e := grant.Look(x.b, x.torn); y != 0 || n != 0 || e != api.ErrRule {
			t.Error(i, y, n, e)
		}
	}
	for i, torn := range wrongTorn() {
		if y, n, e := grant.Look(bookH(), torn); y != 0 || n != 0 || e != api.ErrArg {
			t.Error(i, y, n, e)
		}
	}
	for i, b := range wrongBooks() {
		if y, n, e := grant.Look(b, nil); y != 0 || n != 0 || e != api.ErrArg {
			t.Error(i, y, n, e)
		}
	}
}

// someTorn returns a register with torn places, most of which have some truths.
func someTorn(r *rand.Rand) (api.GrantBook, []api.GrantTorn) {
	b := someBook(r, 3+r.IntN(7), 0)
	for len(b.Events) == 0 {
		b = someBook(r, 3+r.IntN(7), 0)
	}
	numbers := r.Perm(len(b.Events))[:min(len(b.Events), r.IntN(4))]
	slices.Sort(numbers)
	var torn []api.GrantTorn
	for _, i := range numbers {
		x := place(i, b.Events[i])
		for range r.IntN(4) {
			y := someEvent(r, changed(b, func(b *api.GrantBook) { b.Events = b.Events[:i] }))
			if r.IntN(3) == 0 {
				y = b.Events[i]
				y.Day = max(0, y.Day+r.IntN(7)-3)
			}
			x.Options = append(x.Options, y)
		}
		r.Shuffle(len(x.Options), func(k, l int) { x.Options[k], x.Options[l] = x.Options[l], x.Options[k] })
		torn = append(torn, x)
	}
	for _, i := range numbers {
		b.Events[i] = sell(b.Events[i].Day, 18, 0)
	}
	return b, torn
}

// wordOf returns what is known of something that is so in some truths.
func wordOf(so, truths int) api.GrantWord {
	switch so {
	case 0:
		return never
	case truths:
		return surely
	}
	return may
}

// P6.6, P6.7: Truths, May and Look are as all truths, each one followed day by day in the office.
func TestAllTruths(t *testing.T) {
	r := rand.New(rand.NewPCG(6, 8))
	found, words, looked := map[bool]int{}, map[api.GrantWord]int{}, map[int]int{}
	for range 500 {
		b, torn := someTorn(r)
		truths, books := truthsOf(b, torn)
		found[len(truths) > 1]++
		if y, e := grant.Truths(b, torn); y != len(truths) || e != api.OK {
			t.Error(b, torn, y, e, truths)
		}
		place, left := bestPlace(torn, truths)
		want := api.OK
		switch len(truths) {
		case 0:
			place, left, want = 0, 0, api.ErrRule
		case 1:
			place, left, want = 0, 0, api.ErrNone
		default:
			looked[place]++
		}
		if y, n, e := grant.Look(b, torn); y != place || n != left || e != want {
			t.Error(b, torn, y, n, e, place, left, want)
		}
		if len(truths) > 0 {
			testWords(t, r, b, torn, books, words)
		}
	}
	if found[false] < 50 || found[true] < 50 || words[never] < 500 || words[may] < 200 || words[surely] < 200 || looked[0] < 20 || looked[1] < 20 || looked[2] < 5 {
		t.Error("too few of a kind", found, words, looked)
	}
}

// bestPlace returns the best place to look at, and how many truths are left at most.
func bestPlace(torn []api.GrantTorn, truths [][]int) (best, left int) {
	left = huge
	for place, x := range torn {
		worst := 0
		for i := range x.Options {
			n := 0
			for _, truth := range truths {
				if truth[place] == i {
					n++
				}
			}
			worst = max(worst, n)
		}
		if worst < left {
			best, left = place, worst
		}
	}
	return best, left
}

// testWords tests what May returns on some days.
func testWords(t *testing.T, r *rand.Rand, b api.GrantBook, torn []api.GrantTorn, books []api.GrantBook, words map[api.GrantWord]int) {
	t.Helper()
	for range 3 {
		day := r.IntN(lastOf(b) + 1)
		var all []seen
		for _, x := range books {
			days, _ := follow(x, day)
			all = append(all, days[day])
		}
		for n := range len(b.Events) + 1 {
			for person := range b.Persons {
				so := 0
				for _, x := range all {
					if x.hasGrant(person, n) {
						so++
					}
				}
				want := wordOf(so, len(all))
				words[want]++
				if y, e := grant.May(b, torn, n, person, day); y != want || e != api.OK {
					t.Error(b, torn, n, person, day, y, e, want)
				}
			}
		}
	}
}

// P6.9: an option less never makes unsure what was sure.
func TestOptionLess(t *testing.T) {
	r := rand.New(rand.NewPCG(6, 9))
	sure := 0
	for range 400 {
		b, torn := someTorn(r)
		for k, x := range torn {
			if len(x.Options) < 2 {
				continue
			}
			i := r.IntN(len(x.Options))
			less := slices.Clone(torn)
			less[k].Options = slices.Delete(slices.Clone(x.Options), i, i+1)
			day := r.IntN(lastOf(b) + 1)
			for n := range len(b.Events) {
				person := r.IntN(b.Persons)
				before, e := grant.May(b, torn, n, person, day)
				after, f := grant.May(b, less, n, person, day)
				if e == api.OK && f == api.OK && before != may {
					sure++
					if after != before {
						t.Error(b, torn, k, i, n, person, day, before, after)
					}
				}
				if e != api.OK && f == api.OK {
					t.Error("an option less makes a truth", b, torn, k, i)
				}
			}
		}
	}
	if sure < 300 {
		t.Error("too few that are sure", sure)
	}
}
