package curator_test

import (
	"reflect"
	"slices"
	"strings"
	"testing"

	"quinaria/api"
	"quinaria/curator"
)

// spoil overwrites the memory of a suite.
func spoil(s api.CuratorSuite) {
	for _, x := range [][]int{s.Register.Owners, s.Open, s.Line.Gives} {
		spoilList(x)
	}
	for i := range s.Register.Table.Rows {
		s.Register.Table.Rows[i] = api.NozzleRow{First: -77}
	}
	for i := range s.Net.Points {
		s.Net.Points[i] = api.GatePoint{Need: 7777}
	}
	for i := range s.Net.Channels {
		s.Net.Channels[i] = api.GateChannel{From: -77}
	}
	for i := range s.Tree.Nodes {
		s.Tree.Nodes[i].Cap = -77
	}
	for i := range s.Tree.Outlets {
		s.Tree.Outlets[i].Claim = -77
	}
}

// spoilList overwrites the memory of a list, also that behind it.
func spoilList(n []int) {
	n = n[:cap(n)]
	for i := range n {
		n[i] = -77
	}
}

// journeys are entries that all go, for each of our suites.
func journeys() [][]string {
	return [][]string{
		{"give 0 1 20", "wait 30", "ask 2 1 40", "move 1", "move 0", "clean 0", "count 0 100 104", "count 3 58 62", "inflow 7", "undo", "inflow 9", "ask 3 1 5", "undo", "die 0 3"},
		{"wait 5", "forget", "undo", "ask 0 1 1", "count 0 3 5", "forget", "inflow 4"},
		{"attach 5 1 60", "attach 5 2 60", "wait 10", "move 9", "clean 9", "count 5 0 100", "sell 5 7"},
		{"attach 1 1 20", "divide 0 5 1", "move 3", "clean 1", "wait 3", "count 2 70 90", "sell 1 0", "inflow 10"},
	}
}

// P10.11, R4: what is changed in a suite after a desk was opened does not change the desk, nor the desk the suite.
func TestSuiteIsNotKept(t *testing.T) {
	all := ourQuestions()
	for i, lines := range journeys() {
		s, same := ourSuites()[i], ourSuites()[i]
		text := strings.Join(lines, "\n") + "\n"
		d := deskOf(t, s)
		early, _, _ := curator.Replay(s, text)
		for _, line := range lines {
			if e := d.Enter(entered(line)); e != api.OK {
				t.Fatal(i, line, e)
			}
		}
		before := answers(d, all)
		curator.Check(s)
		curator.Console(s, text)
		if !reflect.DeepEqual(s, same) {
			t.Error(i, s, same)
		}
		spoil(s)
		if !slices.EqualFunc(before, answers(d, all), sameTold) || !slices.EqualFunc(before, answers(early, all), sameTold) {
			t.Error(i, before)
		}
		for range lines {
			for _, x := range []*curator.Desk{d, early} {
				if e := x.Enter(entered("undo")); e != api.OK && ask(t, x, "stands") != "nothing" {
					t.Error(i, e)
				}
			}
		}
		if fresh := deskOf(t, same); !slices.EqualFunc(answers(fresh, all), answers(d, all), sameTold) || !slices.EqualFunc(answers(fresh, all), answers(early, all), sameTold) {
			t.Error(i)
		}
	}
}

// roomy returns a list with room behind it, which is filled.
func roomy[T any](list []T, fill T) []T {
	n := len(list)
	return append(slices.Clone(list), fill, fill, fill)[: n : n+3]
}

// P10.11, R4: lists of a suite with room behind them are not written to, nor read there.
func TestRoomBehindLists(t *testing.T) {
	event, count := api.GrantEvent{Kind: -77}, api.LeakCount{Point: -77}
	s := changed(suiteS(), func(s *api.CuratorSuite) {
		s.Register.Events, s.Line.Counts, s.Open = roomy(s.Register.Events, event), roomy(s.Line.Counts, count), roomy(s.Open, -77)
	})
	d, other := deskOf(t, s, journeys()[0]...), deskOf(t, s, journeys()[0][1:5]...)
	if !slices.Equal(s.Register.Events[:3], []api.GrantEvent{event, event, event}) || !slices.Equal(s.Line.Counts[:3], []api.LeakCount{count, count, count}) || !slices.Equal(s.Open[:5], list(0, 3, -77, -77, -77)) {
		t.Error(s.Register.Events[:3], s.Line.Counts[:3], s.Open[:5])
	}
	if x, y := ask(t, d, "grants"), ask(t, other, "grants"); x != "2 3 -1" || y != "1 2 -1" {
		t.Error(x, y)
	}
}

// P10.11: what is changed in an entry after it was made does not change the desk, nor the desk the entry.
func TestEntryIsNotKept(t *testing.T) {
	d := deskOf(t, suiteS())
	var numbers [][]int
	for _, line := range journeys()[0] {
		x := entered(line)
		x.Numbers = roomy(x.Numbers, 5)
		same := slices.Clone(x.Numbers[:cap(x.Numbers)])
		if e := d.Enter(x); e != api.OK || !slices.Equal(same, x.Numbers[:cap(x.Numbers)]) {
			t.Error(line, e, x)
		}
		numbers = append(numbers, x.Numbers)
	}
	before := answers(d, ourQuestions())
	for _, n := range numbers {
		spoilList(n)
	}
	if !slices.Equal(journal(t, d), journeys()[0]) || !slices.EqualFunc(before, answers(d, ourQuestions()), sameTold) {
		t.Error(journal(t, d))
	}
}

// P10.3, P10.11, R8: a question changes nothing, nor does what is changed in its answer; asked again, it has the same answer.
func TestAnswersAreNotKept(t *testing.T) {
	all := ourQuestions()
	for i, lines := range journeys() {
		for _, d := range []*curator.Desk{deskOf(t, ourSuites()[i]), deskOf(t, ourSuites()[i], lines...)} {
			text, _ := d.Journal()
			before := answers(d, all)
			for _, y := range answers(d, all) {
				spoilList(y.numbers)
			}
			if again, _ := d.Journal(); again != text || !slices.EqualFunc(before, answers(d, all), sameTold) {
				t.Error(i, text, again)
			}
		}
	}
	q := question(api.CuratorMoves, roomy(list(0), 5)...)
	deskOf(t, suiteS()).Ask(q)
	if !slices.Equal(q.Numbers[:4], list(0, 5, 5, 5)) {
		t.Error(q)
	}
}

// P10.2, R2: an entry with an error changes nothing, neither what is answered, nor the journal.
func TestErrorsChangeNothing(t *testing.T) {
	all := ourQuestions()
	wrong := append(unformed(), entered("wait 0"), entered("wait 36500"), entered("give 9 1 20"), entered("give 0 0 20"), entered("sell 0 9"), entered("move 36500"), entered("clean 36500"), entered("move 7"), entered("count 9 0 0"), entered("count 0 9 0"), entered("inflow 201"))
	for i, lines := range journeys() {
		d := deskOf(t, ourSuites()[i], append([]string{"wait 1"}, lines...)...)
		text, _ := d.Journal()
		before := answers(d, all)
		for _, x := range wrong {
			if i == 2 && x.Kind == api.CuratorMove {
				continue
			}
			if e := d.Enter(x); e == api.OK {
				t.Error(i, x)
			}
		}
		if again, _ := d.Journal(); again != text || !slices.EqualFunc(before, answers(d, all), sameTold) {
			t.Error(i, text, again)
		}
	}
}

// R4: desks share nothing, also if one is a copy of another one.
func TestDesksAreApart(t *testing.T) {
	s := suiteS()
	one, other := deskOf(t, s, "wait 1", "wait 2", "wait 3"), deskOf(t, s, "wait 1")
	third := *one
	if one.Enter(entered("wait 4")) != api.OK || third.Enter(entered("undo")) != api.OK || other.Enter(entered("move 4")) != api.OK {
		t.Error("entries do not go")
	}
	for i, x := range []struct {
		d          *curator.Desk
		day, gates string
	}{{one, "10", "0 3"}, {other, "1", "0 3 4"}, {&third, "3", "0 3"}} {
		if day, gates := ask(t, x.d, "day"), ask(t, x.d, "gates"); day != x.day || gates != x.gates {
			t.Error(i, day, gates)
		}
	}
}

// R3: nil and empty lists are the same.
func TestNilAndEmpty(t *testing.T) {
	empty := changed(smallSuite(), func(s *api.CuratorSuite) {
		s.Register.Owners, s.Register.Events, s.Net.Channels, s.Open, s.Line.Counts, s.Tree.Nodes = list(), []api.GrantEvent{}, []api.GateChannel{}, list(), []api.LeakCount{}, []api.DroughtNode{}
	})
	if e := curator.Check(empty); e != api.OK {
		t.Error(e)
	}
	for _, lines := range [][]string{nil, journeys()[1]} {
		if a, b := deskOf(t, smallSuite(), lines...), deskOf(t, empty, lines...); !slices.EqualFunc(answers(a, ourQuestions()), answers(b, ourQuestions()), sameTold) {
			t.Error(lines)
		}
	}
	d := deskOf(t, suiteS())
	for _, n := range [][]int{nil, {}} {
		if e := d.Enter(api.CuratorEntry{Kind: api.CuratorForget, Numbers: n}); e != api.OK {
			t.Error(e)
		}
		if y, e := d.Ask(api.CuratorQuestion{Kind: api.CuratorDay, Numbers: n}); !slices.Equal(y, list(0)) || e != api.OK {
			t.Error(y, e)
		}
		if y, e := curator.Write(api.CuratorEntry{Kind: api.CuratorUndo, Numbers: n}); y != "undo" || e != api.OK {
			t.Error(y, e)
		}
	}
}

// P0.1, R5: every function answers, whatever the arguments are.
func TestAnyValue(t *testing.T) {
	values := list(-huge-1, -36501, -1, 0, 1, 2, 3, 5, 9, 10, 13, 19, 20, 24, 200, 360, 400, 36500, 36501, huge-1, huge)
	for i, s := range ourSuites() {
		d := deskOf(t, s, journeys()[i]...)
		for k := -2; k <= 17; k++ {
			for j, a := range values {
				for _, b := range values {
					c := values[(3*j+k+5)%len(values)]
					for _, n := range [][]int{nil, {a}, {a, b}, {a, b, c}, {c, a, b}} {
						x := entry(api.CuratorKind(k), n...)
						if d.Enter(x) == api.OK && d.Enter(entered("undo")) != api.OK {
							d = deskOf(t, s, journeys()[i]...)
						}
						curator.Write(x)
						d.Ask(question(api.CuratorTopic(k), n...))
					}
				}
			}
		}
		many := make([]int, 100000)
		curator.Check(api.CuratorSuite{Register: s.Register, Net: s.Net, Open: many, Line: s.Line, Tree: s.Tree})
		d.Enter(entry(api.CuratorWait, many...))
		d.Ask(question(api.CuratorDay, many...))
	}
	for _, text := range []string{"", "\n", "\x00", "\xff\xfe\n", "wait", "wait \n", "give  \n", strings.Repeat("\n", 1000), strings.Repeat(" ", 1000), strings.Repeat("undo\n", 200), strings.Repeat("forget\nundo\n", 83)} {
		for _, s := range append(ourSuites(), wrongSuites()...) {
			curator.Parse(text)
			curator.Replay(s, text)
			curator.Console(s, text)
		}
	}
}
