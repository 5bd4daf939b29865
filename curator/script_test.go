package curator_test

import (
	"math/rand/v2"
	"slices"
	"strings"
	"testing"

	"quinaria/api"
	"quinaria/curator"
)

// P10.9, P0.10: a desk that is replayed answers as the one that wrote the journal, writes the same one, and goes on as that.
func TestReplay(t *testing.T) {
	r := rand.New(rand.NewPCG(10, 9))
	all := ourQuestions()
	for i := range 60 {
		s := ourSuites()[i%4]
		d, m := deskOf(t, s), model{s: s}
		for range r.IntN(30) {
			x := likely(r, m)
			d.Enter(x)
			m.enter(x)
		}
		text, _ := d.Journal()
		again, n, e := curator.Replay(s, text)
		if again == nil || n != -1 || e != api.OK {
			t.Fatal(s, text, again, n, e)
		}
		if !slices.EqualFunc(answers(d, all), answers(again, all), sameTold) {
			t.Fatal(s, text)
		}
		agree(t, again, m, someOf(r, all))
		for range 3 {
			x := someEntry(r, m)
			if e, f, g := d.Enter(x), again.Enter(x), m.enter(x); e != f || e != g {
				t.Fatal(s, text, x, e, f, g)
			}
			agree(t, again, m, someOf(r, all))
		}
	}
}

// P10.9: the longest journal, and one of no entries.
func TestReplayLimits(t *testing.T) {
	if d, n, e := curator.Replay(suiteS(), ""); d == nil || n != -1 || e != api.OK || ask(t, d, "stands") != "nothing" {
		t.Error(d, n, e)
	}
	long := slices.Repeat([]string{"count 0 100 104", "undo", "attach 0 1 10", "undo"}, 6)
	d := deskOf(t, suiteS(), long...)
	text, _ := d.Journal()
	if again, n, e := curator.Replay(suiteS(), text); again == nil || n != -1 || e != api.OK || !slices.Equal(journal(t, again), long) || again.Enter(entered("wait 1")) != api.ErrLong {
		t.Error(again, n, e)
	}
}

// P10.9: a journal that cannot be replayed has no desk, but the first line with which it cannot.
func TestReplayErrors(t *testing.T) {
	full := strings.Repeat("wait 1\n", 24)
	for i, x := range []struct {
		journal string
		n       int
		e       api.Errno
	}{
		{"\n", 0, api.ErrText}, {"wait 1", 0, api.ErrText}, {"wait 1\nwait 2", 1, api.ErrText}, {"wait 1\n\n", 1, api.ErrText}, {"wait 1\nday\n", 1, api.ErrText}, {"wait 1\r\n", 0, api.ErrText}, {"wait 1\nwait 0", 1, api.ErrText},
		{"wait 1\nundo\nwait 36501\n", 2, api.ErrText}, {"wait 1\n" + strings.Repeat("x", 41) + "\n", 1, api.ErrText}, {strings.Repeat("x", 1000), 0, api.ErrText}, {strings.Repeat("\n", 1000), 0, api.ErrText}, {strings.Repeat("x", 999) + "\n", 0, api.ErrText},
		{"wait 0\n", 0, api.ErrRule}, {"undo\n", 0, api.ErrRule}, {"wait 1\nundo\nundo\nx", 2, api.ErrRule}, {"give 0 1 20\nmove 0\nwait 1", 1, api.ErrRule}, {"give 9 1 20\n", 0, api.ErrRule}, {"wait 0\nx\n", 0, api.ErrRule}, {"x\nwait 0\n", 0, api.ErrText},
		{full + "wait 1\n", 24, api.ErrLong}, {full + "undo\n", 24, api.ErrLong}, {full + "wait 0\n", 24, api.ErrLong}, {full + "wait 1", 24, api.ErrText}, {full + "x\n", 24, api.ErrText}, {full + "\n", 24, api.ErrText}, {strings.Repeat("wait 1\n", 142) + "wait \n", 24, api.ErrLong},
		{strings.Repeat("x", 1001), 0, api.ErrLong}, {full + strings.Repeat("wait 1\n", 119), 0, api.ErrLong}, {strings.Repeat("\n", 1001), 0, api.ErrLong}, {strings.Repeat("x\n", 100000), 0, api.ErrLong},
	} {
		if d, n, e := curator.Replay(suiteS(), x.journal); d != nil || n != x.n || e != x.e {
			t.Errorf("%d: %q %v %d %v", i, x.journal, d, n, e)
		}
	}
	for i, line := range wrongLines() {
		if strings.Contains(line, "\n") {
			continue
		}
		if d, n, e := curator.Replay(suiteS(), "wait 1\nundo\n"+line+"\nundo\n"); d != nil || n != 2 || e != api.ErrText {
			t.Errorf("%d: %q %v %d %v", i, line, d, n, e)
		}
	}
}

// P10.10: the chapter's example, as a script.
func TestConsoleExample(t *testing.T) {
	var script, want strings.Builder
	for _, x := range steps(exampleSteps()...) {
		script.WriteString(x.line + "\n")
		want.WriteString(x.answer + "\n")
	}
	if y, e := curator.Console(suiteS(), script.String()); y != want.String() || e != api.OK {
		t.Error(y, e)
	}
}

// P10.10: each line has an answer, also those that are none of entries and questions.
func TestConsole(t *testing.T) {
	long := strings.Repeat("x", 41)
	for i, x := range []struct{ script, want string }{
		{"", ""}, {"\n", "error 4\n"}, {"\n\nday\n", "error 4\nerror 4\n0\n"}, {"wait 1\nday\n", "noted\n1\n"}, {"wait 0\nday\nundo\n", "error 7\n0\nerror 7\n"}, {"waiting\ngrants\nstands\n", "nothing\nnothing\nnothing\n"},
		{"day\r\n", "error 4\n"}, {"day \n", "error 4\n"}, {" day\n", "error 4\n"}, {"day 0\n", "error 4\n"}, {"Day\n", "error 4\n"}, {"since 0\nsince 00\nsince 2\nsince 36500\nsince 36501\nsince -1\nsince\n", "0\nerror 4\nerror 2\nerror 2\nerror 4\nerror 4\nerror 4\n"},
		{"why 3\nwhy 4\nmoves 3\nnext 21\nholds 0 3\nholds 4 1\nholds 0\n", "1\nerror 2\nerror 5\nerror 2\nerror 2\nerror 2\nerror 4\n"}, {"give 0 1 5\nwait 1\ndie 0 1\nwait 31\ngrants\n", "noted\nnoted\nnoted\nnoted\n3 -1 -1\n"},
		{long + "\nday\n" + long + "x\n", "error 3\n0\nerror 3\n"}, {long[1:] + "\n", "error 4\n"}, {"wait 1" + strings.Repeat(" ", 35) + "\n", "error 3\n"}, {"day" + strings.Repeat(" ", 38) + "\n", "error 3\n"}, {"day" + strings.Repeat(" ", 37) + "\n", "error 4\n"},
		{"noted\nnothing\nerror 4\nopen\njournal\n", strings.Repeat("error 4\n", 5)}, {strings.Repeat("wait 1\n", 26) + "day\nstands\n", strings.Repeat("noted\n", 24) + "error 3\nerror 3\n24\n0 1 2 3 4 5 6 7 8 9 10 11 12 13 14 15 16 17 18 19 20 21 22 23\n"},
		{strings.Repeat("day\n", 250), strings.Repeat("0\n", 250)}, {strings.Repeat("\n", 1000), strings.Repeat("error 4\n", 1000)}, {strings.Repeat("x", 999) + "\n", "error 3\n"}, {"\x00\n\xff\nday\n", "error 4\nerror 4\n0\n"},
	} {
		if y, e := curator.Console(suiteS(), x.script); y != x.want || e != api.OK {
			t.Errorf("%d: %q %q %v", i, x.script, y, e)
		}
	}
	for i, x := range []struct {
		script string
		want   api.Errno
	}{
		{strings.Repeat("day\n", 249) + "water", api.ErrLong}, {strings.Repeat("day\n", 249) + "undo\n", api.ErrLong}, {strings.Repeat("x", 1001), api.ErrLong}, {strings.Repeat("x", 100000) + "\n", api.ErrLong},
		{strings.Repeat("x", 1000), api.ErrText}, {"day", api.ErrText}, {"day\nday", api.ErrText}, {"\n ", api.ErrText}, {"day\n\r", api.ErrText},
	} {
		if y, e := curator.Console(suiteS(), x.script); y != "" || e != x.want {
			t.Errorf("%d: %q %q %v", i, x.script, y, e)
		}
	}
}

// P10.10: any script has the answers that the model gives, line by line.
func TestAnyScript(t *testing.T) {
	r := rand.New(rand.NewPCG(10, 10))
	for i := range 150 {
		s := ourSuites()[i%4]
		m := model{s: s}
		var script, want strings.Builder
		for {
			line, answer := someLine(r, &m)
			if script.Len()+len(line) >= api.CuratorText {
				break
			}
			script.WriteString(line + "\n")
			want.WriteString(answer + "\n")
		}
		if y, e := curator.Console(s, script.String()); y != want.String() || e != api.OK {
			t.Fatalf("%v %q %q %q %v", s, script.String(), y, want.String(), e)
		}
	}
}

// someLine returns some line of a script, and its answer.
func someLine(r *rand.Rand, m *model) (line, answer string) {
	switch r.IntN(8) {
	case 0:
		line = wrongLines()[r.IntN(len(wrongLines()))]
		if asked(line).Kind < 1 && !strings.Contains(line, "\n") {
			return line, "error 4"
		}
		return "", "error 4"
	case 1, 2, 3:
		lines, _ := words()
		x := likely(r, *m)
		if e := m.enter(x); e != api.OK {
			answer = joined("error", int(e))
		} else {
			answer = "noted"
		}
		return joined(lines[x.Kind], x.Numbers...), answer
	}
	lines, many := topics()
	k := 1 + r.IntN(14)
	var n []int
	for range many[k] {
		n = append(n, list(0, 1, 2, 3, 4, 9, 36500)[r.IntN(7)])
	}
	y := m.answer(question(api.CuratorTopic(k), n...))
	switch {
	case y.e != api.OK:
		answer = joined("error", int(y.e))
	case len(y.numbers) == 0:
		answer = "nothing"
	default:
		answer = joined("", y.numbers...)
	}
	return joined(lines[k], n...), answer
}
