package grant_test

import (
	"math/rand/v2"
	"slices"
	"strconv"
	"strings"
	"testing"

	"quinaria/api"
	"quinaria/grant"
)

// text returns lines with the CHECK that they should have.
func text(lines ...string) string {
	sum := 0
	for i, line := range lines {
		for j := range len(line) {
			sum += (i + 1) * (j + 1) * int(line[j])
		}
	}
	check := "00" + strconv.Itoa(sum%163)
	return strings.Join(lines, "\n") + "\nend " + check[len(check)-3:] + "\n"
}

// P6.8: the chapter's text, that of its register g, and lines of all kinds.
func TestPrint(t *testing.T) {
	for i, x := range []struct {
		b    api.GrantBook
		want string
	}{
		{smallBook(), "grants 100 30 4 0 1\ngive 10 0 1 20\nend 016\n"},
		{bookG(), text("grants 100 30 4 0 1", "give 10 0 1 20", "attach 20 0 1 10", "ask 30 2 1 25", "die 100 0 3", "sell 200 0 1", "divide 300 1 5 2", "join 400 0 1")},
		{bookOf(nil), text("grants 100 30 4")}, {api.GrantBook{Table: tableT(), Persons: 1}, text("grants 0 0 1")},
		{bookOf(list(3, 2, 3), renew(0, 12, 3), ask(36500, 1, second, 360), divide(36500, 7, 359, 2), join(36500, 18, 17), die(36500, 2, 1), sell(36500, 9, 2), attach(36500, 18, second, 1), give(36500, 3, second, 4)),
			text("grants 100 30 4 3 2 3", "renew 0 12 3", "ask 36500 1 2 360", "divide 36500 7 359 2", "join 36500 18 17", "die 36500 2 1", "sell 36500 9 2", "attach 36500 18 2 1", "give 36500 3 2 4")},
	} {
		if y, e := grant.Print(x.b); y != x.want || e != api.OK {
			t.Errorf("%d: %q %v", i, y, e)
		}
	}
	for i, b := range wrongBooks() {
		if y, e := grant.Print(b); y != "" || e != api.ErrArg {
			t.Errorf("%d: %q %v", i, y, e)
		}
	}
}

// P6.8, P0.11: what was written is read as what was written, also of registers that are not right, and of the longest texts.
func TestReadOfPrint(t *testing.T) {
	r := rand.New(rand.NewPCG(6, 10))
	longest := changed(fullBook(), func(b *api.GrantBook) {
		for i := range b.Events {
			b.Events[i] = attach(36500, 18, second, 360)
		}
	})
	all := append(ourBooks(), longest)
	for _, x := range unrightBooks() {
		all = append(all, x.b)
	}
	for range 300 {
		all = append(all, someBook(r, 12, 3))
	}
	for _, b := range all {
		text, e := grant.Print(b)
		y, f := grant.Read(b.Table, text)
		if e != api.OK || f != api.OK || !sameBook(b, y) {
			t.Errorf("%q %v %v %v", text, y, e, f)
		}
	}
}

// P6.8: one digit that was changed is noticed.
func TestChangedDigits(t *testing.T) {
	for _, b := range append(ourBooks(), fullBook()) {
		text, _ := grant.Print(b)
		for i := range text {
			for digit := '0'; digit <= '9' && '0' <= text[i] && text[i] <= '9'; digit++ {
				changed := text[:i] + string(digit) + text[i+1:]
				if y, e := grant.Read(b.Table, changed); changed != text && (e != api.ErrText || !isNone(y)) {
					t.Errorf("%q %v %v", changed, y, e)
				}
			}
		}
	}
}

// lineWords returns the words of all lines of events, with how many numbers are behind each.
func lineWords() map[string]int {
	return map[string]int{"give": 4, "attach": 4, "die": 3, "sell": 3, "divide": 4, "join": 3, "renew": 3, "ask": 4}
}

// wrongLinesOf returns what is no line with a word and some numbers, each of which is 1 where it can be.
func wrongLinesOf(word string, numbers int) []string {
	right := word + strings.Repeat(" 1", numbers)
	wrong := []string{
		"", word, word + " ", right + " ", " " + right, strings.TrimSuffix(right, " 1"), strings.Replace(right, " ", "  ", 1), strings.Replace(right, " ", "\t", 1), strings.Replace(right, " ", "", 1),
		strings.TrimPrefix(right, word+" "), "1 " + right, "x" + right, word + "s" + right[len(word):], strings.ToUpper(right), right[1:], right + "\r", right + "\x00", "end 051", "grant" + right,
	}
	for _, digits := range []string{"01", "00", "001", "+1", "-1", "-0", "x", "1x", "1.0", "1,0", "100000", "99999999999999999999", "0x1", "1_0", "/", ":", "１", "٣", "\xff", ""} {
		wrong = append(wrong, word+strings.Repeat(" 1", numbers-1)+" "+digits, word+" "+digits+strings.Repeat(" 1", numbers-1))
	}
	return wrong
}

// noTexts are strings that have not the form of a text, most of them with the CHECK that they should have.
func noTexts() []string {
	right := text("grants 1 1 4", "give 1 1 1 5", "ask 1 1 1 5")
	all := []string{
		"", "\n", "\n\n", "end 000\n", text(""), "grants 1 1 4\n", "grants 1 1 4\ngive 1 1 1 5\n", right[1:], right[:len(right)-1], right + "\n", "\n" + right, right + right,
		strings.ReplaceAll(right, "\n", "\r\n"), strings.TrimSuffix(right, right[strings.Index(right, "end"):]), "\xff\xfe", strings.Repeat("x", 400), strings.Repeat("\n", 400), strings.Repeat(" ", 400),
		text("give 1 1 1 5"), text("give 1 1 1 5", "grants 1 1 4"), text("grants 1 1 4", "grants 1 1 4"), text("", "grants 1 1 4"), text("grants 1 1 4", ""), text("grants 1 1 4", "", "give 1 1 1 5"),
		text("grants 1 1 4", "give 1 1 1 5", "end 016"), text("grants 1 1 4", "table 50"), text("grants"), text("grants 1"), text("grants 1 1"), text("grant 1 1 4"), text("grants 1 1 4 "), text("table 50", "grants 1 1 4"),
	}
	small := "grants 100 30 4 0 1\ngive 10 0 1 20\nend 016\n"
	for _, end := range []string{"", "end", "end ", "end 16", "end 0016", "end 015", "end 017", "end 179", "end -16", "end 016 ", " end 016", "end  016", "End 016", "end\t016", "end 016 0", "end 01６", "016", "end 016\nend 016"} {
		all = append(all, strings.Replace(small, "end 016", end, 1))
	}
	for _, wrong := range wrongLinesOf("grants", 3) {
		all = append(all, text(wrong, "give 1 1 1 5"))
	}
	for _, wrong := range wrongLinesOf("grants", 5) {
		if wrong != "grants 1 1 1 1" { // which has an owner less
			all = append(all, text(wrong, "give 1 1 1 5"))
		}
	}
	for word, numbers := range lineWords() {
		for _, wrong := range append(wrongLinesOf(word, numbers), word+strings.Repeat(" 1", numbers+1)) {
			all = append(all, text("grants 1 1 4", wrong), text("grants 1 1 4", "give 1 1 1 5", wrong, "ask 1 1 1 5"))
		}
	}
	return all
}

// P6.8: strings that have not the form are no texts, also with a table that is not as defined.
func TestReadOfNoText(t *testing.T) {
	for word, numbers := range lineWords() {
		x := text("grants 1 1 4", word+strings.Repeat(" 1", numbers))
		y, e := grant.Read(tableT(), x)
		if z, f := grant.Print(y); e != api.OK || f != api.OK || z != x {
			t.Errorf("%q %v %v", x, y, e)
		}
	}
	for i, x := range noTexts() {
		for _, table := range []api.NozzleTable{tableT(), {}} {
			if y, e := grant.Read(table, x); e != api.ErrText || !isNone(y) {
				t.Errorf("%d: %q %v %v", i, x, y, e)
			}
		}
	}
}

// longText returns a text of so many bytes, of a register with too many owners.
func longText(size int) string {
	line := "grants 1 1 4" + strings.Repeat(" 1", (size-len(text("grants 1 1 4")))/2)
	if len(text(line)) < size {
		line += "1"
	}
	return text(line)
}

// P6.8: a text has the form with any numbers, owners and events; what is too long comes first.
func TestReadOfWrongBooks(t *testing.T) {
	many := func(owners, count int) string {
		return text(slices.Concat([]string{"grants 10000 1000 8" + strings.Repeat(" 7", owners)}, slices.Repeat([]string{"give 1 7 2 360"}, count))...)
	}
	if len(longText(400)) != 400 || len(longText(401)) != 401 {
		t.Error(len(longText(400)), len(longText(401)))
	}
	for i, x := range []struct {
		text string
		e    api.Errno
	}{
		{many(6, 12), api.OK}, {many(0, 0), api.OK}, {many(7, 12), api.ErrArg}, {many(6, 13), api.ErrArg}, {many(30, 0), api.ErrArg}, {many(0, 20), api.ErrArg},
		{text("grants 10001 0 1"), api.ErrArg}, {text("grants 0 1001 1"), api.ErrArg}, {text("grants 0 0 0"), api.ErrArg}, {text("grants 0 0 9"), api.ErrArg}, {text("grants 0 0 4 4"), api.ErrArg}, {text("grants 0 0 4 3"), api.OK},
		{text("grants 99999 99999 99999 99999"), api.ErrArg}, {text("grants 99999 99999 99999 100000"), api.ErrText},
		{text("grants 0 0 4", "give 36500 3 2 360"), api.OK}, {text("grants 0 0 4", "give 36501 3 2 360"), api.ErrArg}, {text("grants 0 0 4", "give 0 4 2 360"), api.ErrArg}, {text("grants 0 0 4", "give 0 3 3 360"), api.ErrArg},
		{text("grants 0 0 4", "give 0 3 0 360"), api.ErrArg}, {text("grants 0 0 4", "ask 0 3 99999 360"), api.ErrArg}, {text("grants 0 0 4", "attach 0 18 2 361"), api.ErrArg}, {text("grants 0 0 4", "attach 0 18 2 0"), api.ErrArg},
		{text("grants 0 0 4", "attach 0 19 2 1"), api.ErrArg}, {text("grants 0 0 4", "die 0 3 4"), api.ErrArg}, {text("grants 0 0 4", "die 0 3 3"), api.OK}, {text("grants 0 0 4", "sell 0 19 3"), api.ErrArg}, {text("grants 0 0 4", "sell 0 18 4"), api.ErrArg},
		{text("grants 0 0 4", "divide 0 13 1 3"), api.ErrArg}, {text("grants 0 0 4", "divide 0 12 360 3"), api.OK}, {text("grants 0 0 4", "join 0 18 19"), api.ErrArg}, {text("grants 0 0 4", "join 0 18 18"), api.OK}, {text("grants 0 0 4", "renew 0 13 0"), api.ErrArg},
		{text("grants 0 0 4", "renew 5 0 0", "renew 4 0 0"), api.ErrArg}, {text("grants 0 0 4", "renew 5 0 0", "renew 5 0 0"), api.OK},
		{longText(400), api.ErrArg}, {longText(401), api.ErrLong}, {strings.Repeat("x", 401), api.ErrLong}, {strings.Repeat("\n", 100000), api.ErrLong}, {many(200, 0), api.ErrLong},
	} {
		y, e := grant.Read(tableT(), x.text)
		if e != x.e || e != api.OK && !isNone(y) {
			t.Errorf("%d: %q %v %v", i, x.text, y, e)
		}
	}
	for _, table := range []api.NozzleTable{{}, {Rows: make([]api.NozzleRow, 13)}, {Rows: tableT().Rows, Draw: 101}, {Rows: make([]api.NozzleRow, 1)}} {
		for text, want := range map[string]api.Errno{many(6, 12): api.ErrArg, many(7, 0): api.ErrArg, longText(401): api.ErrLong} {
			if y, e := grant.Read(table, text); e != want || !isNone(y) {
				t.Errorf("%v %q %v %v", table, text, y, e)
			}
		}
	}
}
