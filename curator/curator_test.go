package curator_test

import (
	"math/rand/v2"
	"slices"
	"strings"
	"testing"

	"quinaria/api"
	"quinaria/curator"
	"quinaria/gate"
	"quinaria/grant"
	"quinaria/leak"
)

// P10.1: a suite that is as defined has a desk without entries.
func TestOpen(t *testing.T) {
	for i, s := range append(ourSuites(), changed(suiteS(), func(s *api.CuratorSuite) { s.Open = list(0, 1, 3, 4) }), changed(suiteS(), func(s *api.CuratorSuite) { s.Open = list(1, 3) })) {
		if e := curator.Check(s); e != api.OK {
			t.Error(i, e)
		}
		d, e := curator.Open(s)
		if d == nil || e != api.OK {
			t.Fatal(i, d, e)
		}
		for _, x := range [][2]string{{"day", "0"}, {"grants", "nothing"}, {"waiting", "nothing"}, {"stands", "nothing"}, {"water", joined("", 0, s.Register.Supply)}} {
			if y := ask(t, d, x[0]); y != x[1] {
				t.Error(i, x, y)
			}
		}
		if lines := journal(t, d); len(lines) != 0 {
			t.Error(i, lines)
		}
	}
}

// P10.1: a suite that is not as defined in any of its parts has none.
func TestWrongSuites(t *testing.T) {
	for i, s := range wrongSuites() {
		if e := curator.Check(s); e != api.ErrArg {
			t.Error(i, e)
		}
		if d, e := curator.Open(s); d != nil || e != api.ErrArg {
			t.Error(i, d, e)
		}
		for _, text := range []string{"", "wait 1\n", "x", strings.Repeat("x", 1001)} {
			if d, n, e := curator.Replay(s, text); d != nil || n != 0 || e != api.ErrArg {
				t.Error(i, d, n, e)
			}
			if y, e := curator.Console(s, text); y != "" || e != api.ErrArg {
				t.Error(i, y, e)
			}
		}
	}
}

// Methods of no desk, and of one that was never opened, return ErrNil before all else.
func TestNoDesk(t *testing.T) {
	for i, d := range []*curator.Desk{nil, {}, new(curator.Desk)} {
		for _, x := range []api.CuratorEntry{entered("wait 1"), entered("undo"), entry(0), entry(api.CuratorWait)} {
			if e := d.Enter(x); e != api.ErrNil {
				t.Error(i, x, e)
			}
		}
		for _, q := range []api.CuratorQuestion{asked("day"), asked("stands"), question(0), question(api.CuratorDay, 1)} {
			if y, e := d.Ask(q); len(y) > 0 || e != api.ErrNil {
				t.Error(i, q, y, e)
			}
		}
		if y, e := d.Journal(); y != "" || e != api.ErrNil {
			t.Error(i, y, e)
		}
	}
	if _, n, e := curator.Replay(api.CuratorSuite{}, ""); n != 0 || e != api.ErrArg {
		t.Error(n, e)
	}
}

// step is an entry with its error, or a question with the line that answers it.
type step struct {
	line, answer string
}

// steps returns steps, with a line, two blanks, and its answer each.
func steps(all ...string) (out []step) {
	for _, x := range all {
		line, answer, _ := strings.Cut(x, "  ")
		out = append(out, step{line, answer})
	}
	return out
}

// follow makes entries and asks questions at a desk of a suite, one after the other.
func follow(t *testing.T, s api.CuratorSuite, all ...string) *curator.Desk {
	t.Helper()
	d := deskOf(t, s)
	for i, x := range steps(all...) {
		var y string
		if entered(x.line).Kind < 1 {
			y = ask(t, d, x.line)
		} else if e := d.Enter(entered(x.line)); e != api.OK {
			y = joined("error", int(e))
		} else {
			y = "noted"
		}
		if y != x.answer {
			t.Errorf("%d: %s: %s, not %s", i, x.line, y, x.answer)
		}
	}
	return d
}

// exampleSteps are the chapter's example, step by step.
func exampleSteps() []string {
	return []string{
		"day  0", "water  0 100", "give 0 1 20  noted", "grants  1 0 -1", "wait 30  noted", "ask 2 1 40  noted", "waiting  2", "give 1 1 5  error 7", "holds 0 2  15 16",
		"move 0  error 7", "moves 0  0 1", "move 1  noted", "move 0  noted", "gates  1 3", "clean 1  error 7", "clean 0  noted", "wait 10  noted", "since 0  10", "since 1  40", "oldest  1",
		"count 0 100 104  noted", "count 3 58 62  noted", "tapped  2 2 2", "next 2  1 2", "count 1 97 100  error 7", "shares  3 3 4 0", "inflow 20  noted", "why 2  error 5",
		"undo  noted", "stands  0 1 2 3 4 5 6 7 8", "shares  3 3 4 0", "why 2  0", "die 0 3  noted", "grants  2 3 -1",
	}
}

// P10.2, P10.3: the chapter's example.
func TestExample(t *testing.T) { follow(t, suiteS(), exampleSteps()...) }

// P10.2: entries that are not formed are ErrArg, whatever was made before.
func TestUnformedEntries(t *testing.T) {
	full := deskOf(t, suiteS(), slices.Repeat([]string{"wait 1"}, 24)...)
	for _, d := range []*curator.Desk{deskOf(t, suiteS()), full} {
		for _, x := range unformed() {
			if e := d.Enter(x); e != api.ErrArg {
				t.Error(x, e)
			}
		}
	}
	if len(journal(t, full)) != 24 {
		t.Error(journal(t, full))
	}
}

// unformed are entries that are not formed.
func unformed() (all []api.CuratorEntry) {
	for _, k := range list(0, -1, 16, huge, -huge-1) {
		for many := range 4 {
			all = append(all, entry(api.CuratorKind(k), make([]int, many)...))
		}
	}
	_, numbers := words()
	for k, right := range numbers[1:] {
		for many := range 6 {
			if many != right {
				all = append(all, entry(api.CuratorKind(k+1), slices.Repeat(list(1), many)...))
			}
		}
		for i := range right {
			for _, n := range list(-1, 36501, huge, -huge-1) {
				x := entry(api.CuratorKind(k+1), slices.Repeat(list(1), right)...)
				x.Numbers[i] = n
				all = append(all, x)
			}
		}
	}
	return append(all, entry(api.CuratorUndo, make([]int, 100000)...))
}

// P10.2: no more entries are made than api.CuratorEntries, undos and what they took back among them.
func TestManyEntries(t *testing.T) {
	lines := slices.Concat(slices.Repeat([]string{"wait 1", "undo"}, 11), []string{"wait 2", "give 0 1 5"})
	d := deskOf(t, suiteS(), lines...)
	for _, line := range []string{"wait 1", "undo", "forget", "give 0 1 5", "wait 0", "move 36500"} {
		if e := d.Enter(entered(line)); e != api.ErrLong {
			t.Error(line, e)
		}
	}
	if y := ask(t, d, "stands"); y != "22 23" {
		t.Error(y)
	}
	if y := journal(t, d); !slices.Equal(y, lines) {
		t.Error(y)
	}
}

// P10.2: days pass up to api.GrantDays.
func TestWait(t *testing.T) {
	follow(t, suiteS(), "wait 0  error 7", "day  0", "wait 1  noted", "day  1", "wait 36500  error 7", "wait 36499  noted", "day  36500", "wait 1  error 7", "wait 0  error 7", "day  36500",
		"give 0 1 5  noted", "grants  1 0 -1", "since 0  36500", "undo  noted", "undo  noted", "day  1", "grants  nothing", "wait 36500  error 7", "wait 36498  noted", "wait 2  error 7", "wait 1  noted", "day  36500", "stands  0 5 6")
	follow(t, suiteS(), "wait 36500  noted", "wait 1  error 7", "day  36500", "water  0 100")
}

// P10.2, P10.4: events are of the day, and go as layer 6 says.
func TestGrants(t *testing.T) {
	follow(t, suiteS(), "give 0 1 20  noted", "attach 0 1 10  noted", "wait 20  noted", "ask 2 2 19  noted", "waiting  2", "water  65 35", "holds 0 1  30 30", "die 0 3  noted", "grants  2 3 -1 1 3 0",
		"wait 30  noted", "water  65 35", "wait 1  noted", "grants  3 -1 -1 1 3 0 1 2 -1", "water  75 25", "waiting  nothing", "renew 0 3  error 7", "undo  noted", "renew 0 3  noted", "grants  1 3 -1 1 3 0",
		"sell 0 1  noted", "divide 1 5 2  noted", "join 0 1  noted", "join 0 1  error 7", "grants  1 3 -1 1 1 0 1 2 2", "holds 2 2  4 4", "holds 1 2  4 4", "holds 3 2  15 16", "holds 0 1  0 0")
}

// P10.2: an event with a field that is not as defined does not go, nor one more than a register can have.
func TestEventsThatDoNotGo(t *testing.T) {
	d := follow(t, suiteS(), "give 0 1 20  noted", "die 1 2  noted", "stands  0 1")
	for _, line := range []string{
		"give 4 1 5", "give 1 1 5", "give 0 0 5", "give 0 3 5", "give 0 1 0", "give 0 1 361", "give 0 1 7", "give 36500 36500 36500", "give 2 1 40", "attach 2 1 5", "attach 19 1 5", "attach 0 0 5",
		"die 0 0", "die 1 0", "die 0 1", "die 4 0", "sell 0 0", "sell 2 0", "sell 1 1", "divide 0 5 2", "divide 1 5 2", "divide 13 5 2", "join 0 0", "join 0 1", "join 19 0", "renew 0 0", "renew 13 0", "ask 1 1 5", "ask 4 1 5", "ask 0 1 7",
	} {
		if e := d.Enter(entered(line)); e != api.ErrRule {
			t.Error(line, e)
		}
	}
	if y := journal(t, d); !slices.Equal(y, []string{"give 0 1 20", "die 1 2"}) {
		t.Error(y)
	}
	all := append(slices.Repeat([]string{"give 0 1 5  noted"}, 10), slices.Repeat([]string{"ask 1 1 5  noted"}, 2)...)
	follow(t, suiteS(), append(all, "ask 1 1 5  error 7", "give 0 1 5  error 7", "sell 0 2  error 7", "waiting  1 1", "undo  noted", "sell 0 2  noted", "waiting  1")...)
}

// P10.2, P10.5: gates are moved while the network is surely fed, and channels cleaned while they are closed.
func TestGates(t *testing.T) {
	follow(t, suiteS(), "gates  0 3", "move 0  error 7", "move 3  error 7", "move 2  error 7", "move 5  error 7", "move 36500  error 7", "move 4  noted", "gates  0 3 4", "move 1  noted", "gates  0 1 3 4", "move 3  error 7",
		"moves 3  error 5", "moves 4  4", "moves 0  0", "move 0  noted", "gates  1 3 4", "move 1  error 7", "move 4  noted", "gates  1 3", "moves 0  nothing")
	follow(t, suiteS(), "clean 0  error 7", "clean 3  error 7", "clean 2  error 7", "clean 5  error 7", "clean 36500  error 7", "oldest  0", "wait 5  noted", "clean 1  noted", "since 1  0", "since 0  5", "since 4  5", "wait 7  noted",
		"since 1  7", "since 0  12", "since 2  error 2", "since 5  error 2", "move 1  noted", "clean 1  error 7", "move 0  noted", "clean 0  noted", "oldest  3", "wait 1  noted", "clean 0  noted", "clean 4  noted", "since 0  0", "since 1  8", "oldest  3")
	follow(t, otherSuite(), "gates  0 2", "clean 1  noted", "clean 3  noted", "clean 4  error 7", "move 4  error 7", "since 4  error 2", "move 2  error 7", "move 3  noted", "move 2  error 7", "gates  0 2 3", "oldest  0")
	follow(t, smallSuite(), "gates  nothing", "oldest  error 5", "moves 0  error 2", "since 0  error 2", "move 0  error 7", "clean 0  error 7")
	follow(t, fullSuite(), "move 1  noted", "move 9  noted", "move 2  noted", "gates  4 5 7 8", "move 8  noted", "move 4  noted", "move 5  noted", "move 7  noted", "gates  nothing", "move 5  noted", "gates  5", "move 9  noted", "move 1  noted", "gates  1 5 9")
}

// P10.3: of channels that were cleaned on the same day, the first one is the oldest.
func TestOldest(t *testing.T) {
	follow(t, fullSuite(), "oldest  1", "wait 3  noted", "oldest  1", "move 1  noted", "move 2  noted", "clean 1  noted", "oldest  2", "clean 2  noted", "oldest  4", "undo  noted", "oldest  2", "move 4  noted", "move 5  noted", "move 7  noted",
		"clean 2  noted", "clean 4  noted", "clean 5  noted", "clean 7  noted", "oldest  8", "move 8  noted", "clean 8  noted", "move 9  noted", "oldest  9", "clean 9  noted", "oldest  1")
}

// P10.2, P10.6: counts are kept while the line is possible, until they are forgotten.
func TestCounts(t *testing.T) {
	follow(t, suiteS(), "tapped  2 2 2", "count 0 100 104  noted", "count 3 58 62  noted", "count 1 97 100  error 7", "count 4 5 6  error 7", "count 0 104 100  error 7", "count 0 400 401  error 7", "count 36500 0 0  error 7", "tapped  2 2 2",
		"count 1 90 94  noted", "tapped  1 2 2", "next 0  2 1", "forget  noted", "tapped  2 2 2", "count 1 97 100  noted", "tapped  2 2 2", "undo  noted", "undo  noted", "tapped  1 2 2", "undo  noted", "next 2  1 2", "next 20  0 3", "next 21  error 2")
	all := slices.Repeat([]string{"count 0 100 104  noted"}, 8)
	all = append(all, "count 0 100 104  error 7", "count 3 58 62  error 7", "forget  noted", "forget  noted", "count 3 58 62  noted", "stands  0 1 2 3 4 5 6 7 8 9 10")
	follow(t, suiteS(), all...)
}

// P10.2, P10.6: the inflow is the last one, up to api.DroughtCups.
func TestInflow(t *testing.T) {
	follow(t, suiteS(), "why 0  1", "why 3  1", "why 4  error 2", "inflow 201  error 7", "inflow 36500  error 7", "shares  3 3 4 0", "inflow 200  noted", "shares  3 3 6 0", "why 2  error 5", "inflow 0  noted", "shares  0 0 0 0", "why 2  0",
		"inflow 5  noted", "shares  3 2 0 0", "undo  noted", "shares  0 0 0 0", "undo  noted", "shares  3 3 6 0")
}

// P10.7: an undo takes back the last entry that stands, which is no undo.
func TestUndo(t *testing.T) {
	follow(t, suiteS(), "undo  error 7", "stands  nothing", "wait 1  noted", "wait 2  noted", "wait 4  noted", "undo  noted", "day  3", "stands  0 1", "undo  noted", "day  1", "wait 8  noted", "stands  0 5", "day  9", "undo  noted", "undo  noted", "stands  nothing", "day  0",
		"undo  error 7", "forget  noted", "stands  8", "undo  noted", "undo  error 7", "stands  nothing")
	d := follow(t, suiteS(), "move 1  noted", "move 0  noted", "undo  noted", "gates  0 1 3", "move 4  noted", "undo  noted", "undo  noted", "gates  0 3", "undo  error 7")
	if y := journal(t, d); !slices.Equal(y, []string{"move 1", "move 0", "undo", "move 4", "undo", "undo"}) {
		t.Error(y)
	}
}

// P10.3: a question that there is not, or with other numbers, is ErrArg.
func TestWrongQuestions(t *testing.T) {
	d := deskOf(t, suiteS(), "give 0 1 20")
	var wrong []api.CuratorQuestion
	for _, k := range list(0, -1, 15, huge, -huge-1) {
		wrong = append(wrong, question(api.CuratorTopic(k)), question(api.CuratorTopic(k), 0), question(api.CuratorTopic(k), 0, 1))
	}
	_, numbers := topics()
	for k, right := range numbers[1:] {
		for many := range 5 {
			if many != right {
				wrong = append(wrong, question(api.CuratorTopic(k+1), slices.Repeat(list(1), many)...))
			}
		}
	}
	for _, n := range list(-1, 5, 21, 36501, huge, -huge-1) {
		wrong = append(wrong, question(api.CuratorMoves, n), question(api.CuratorSince, n), question(api.CuratorWhy, n), question(api.CuratorHolds, n, 1), question(api.CuratorHolds, 0, n))
	}
	for _, n := range list(-1, 21, 36500, huge, -huge-1) {
		wrong = append(wrong, question(api.CuratorNext, n))
	}
	wrong = append(wrong, asked("moves 2"), asked("since 2"), asked("why 4"), asked("holds 4 1"), asked("holds 0 0"), asked("holds 0 3"))
	for _, q := range wrong {
		if y, e := d.Ask(q); len(y) > 0 || e != api.ErrArg {
			t.Error(q, y, e)
		}
	}
}

// P10.2 to P10.7: whatever is entered, a desk answers as the model does, and keeps what it should.
func TestAnyEntries(t *testing.T) {
	r := rand.New(rand.NewPCG(10, 1))
	all, went := ourQuestions(), map[api.CuratorKind]int{}
	for i := range 120 {
		s := ourSuites()[i%4]
		d, m := deskOf(t, s), model{s: s}
		for range 10 + r.IntN(20) {
			x := likely(r, m)
			e := d.Enter(x)
			if f := m.enter(x); e != f {
				t.Fatal(s, m.made, x, e, f)
			}
			if e == api.OK {
				went[x.Kind]++
			}
			agree(t, d, m, someOf(r, all))
			keeps(t, m)
		}
		agree(t, d, m, all)
	}
	for k := api.CuratorWait; k <= api.CuratorUndo; k++ {
		if went[k] < 10 {
			t.Error("too few for a test", k, went[k])
		}
	}
}

// someOf returns some of many questions.
func someOf(r *rand.Rand, all []api.CuratorQuestion) (some []api.CuratorQuestion) {
	for _, q := range all {
		if r.IntN(8) == 0 {
			some = append(some, q)
		}
	}
	return some
}

// agree tells where a desk does not answer as a model does.
func agree(t *testing.T, d *curator.Desk, m model, all []api.CuratorQuestion) {
	t.Helper()
	for i, y := range answers(d, all) {
		if z := m.answer(all[i]); !sameTold(y, z) {
			t.Fatal(m.s, m.made, all[i], y, z)
		}
	}
	if text, e := d.Journal(); text != m.journal() || e != api.OK {
		t.Fatal(m.s, m.made, text, e)
	}
}

// keeps tells where what stands is not as a desk should keep it.
func keeps(t *testing.T, m model) {
	t.Helper()
	if _, e := grant.Wrong(m.book()); e != api.ErrNone {
		t.Fatal("the register is not right", m.made)
	}
	if fed, e := gate.Fed(m.s.Net, m.open()); fed != api.GateSurely || e != api.OK {
		t.Fatal("the network is not surely fed", m.made)
	}
	if is, e := leak.Possible(m.line()); !is || e != api.OK {
		t.Fatal("the line is not possible", m.made)
	}
}

// P10.7: after an undo a desk answers as before; and all that stands could have been made without the others.
func TestUndoLeavesNothing(t *testing.T) {
	r := rand.New(rand.NewPCG(10, 7))
	all := ourQuestions()
	for i := range 60 {
		s := ourSuites()[i%4]
		d, m := deskOf(t, s), model{s: s}
		for len(m.made) < 23 {
			some := someOf(r, all)
			x, before := likely(r, m), answers(d, some)
			if d.Enter(x) != api.OK {
				continue
			}
			m.enter(x)
			if x.Kind == api.CuratorUndo || r.IntN(2) == 0 {
				continue
			}
			undone := entered("undo")
			if e := d.Enter(undone); e != api.OK || m.enter(undone) != api.OK {
				t.Fatal(m.made, e)
			}
			if after := answers(d, some); !slices.EqualFunc(before, after, sameTold) {
				t.Fatal(s, m.made, before, after)
			}
		}
		alone := deskOf(t, s)
		for _, x := range m.standing() {
			if e := alone.Enter(x); e != api.OK {
				t.Fatal(m.made, x, e)
			}
		}
		all := slices.DeleteFunc(slices.Clone(all), func(q api.CuratorQuestion) bool { return q.Kind == api.CuratorStands })
		if !slices.EqualFunc(answers(d, all), answers(alone, all), sameTold) {
			t.Fatal(s, m.made)
		}
	}
}
