package castle_test

import (
	"math/rand/v2"
	"slices"
	"strconv"
	"strings"
	"testing"

	"quinaria/api"
	"quinaria/castle"
)

// text returns lines with the CHECK that they should have.
func text(lines ...string) string {
	total := 0
	for i, line := range lines {
		for j, c := range []byte(line) {
			total += int(c) * (j + 1) * (i + 1)
		}
	}
	check := strconv.Itoa(1000 + total%127)[1:]
	return strings.Join(append(slices.Clone(lines), "end "+check), "\n") + "\n"
}

// smallCastle is the castle whose text the chapter shows.
func smallCastle() api.CastleBasin { return basin(tableT(), 8, 1, 0, 5) }

// P4.9: the text of the chapter, of its castles a and b, and of the greatest numbers.
func TestPrint(t *testing.T) {
	for i, x := range []struct {
		b    api.CastleBasin
		want string
	}{
		{smallCastle(), "castle 8 1\nnozzle 0 5\nend 038\n"},
		{castleA(), text("castle 20 5", "nozzle 0 10", "nozzle 1 10", "nozzle 2 12")},
		{castleB(), text("castle 8 100", "nozzle 1 5", "nozzle 0 5")},
		{highCastle(), text("castle 40 100", "nozzle 0 40", "nozzle 0 40")},
		{fullCastle(), text("castle 0 100", "nozzle 0 0", "nozzle 11 0", "nozzle 1 0", "nozzle 2 0", "nozzle 3 0", "nozzle 4 0")},
	} {
		if y, e := castle.Print(x.b); y != x.want || e != api.OK {
			t.Errorf("%d: %q %v", i, y, e)
		}
	}
	for i, x := range wrongCastles() {
		if y, e := castle.Print(x); y != "" || e != api.ErrArg {
			t.Errorf("%d: %q %v", i, y, e)
		}
	}
}

// P4.9, P0.11: what was written is read as what was written, with the same table.
func TestReadOfPrint(t *testing.T) {
	r := rand.New(rand.NewPCG(4, 10))
	all := append(ourCastles(), smallCastle())
	for range 500 {
		all = append(all, someCastle(r, 6))
	}
	for _, x := range all {
		text, e := castle.Print(x)
		y, f := castle.Read(x.Table, text)
		if e != api.OK || f != api.OK || !sameCastle(x, y) {
			t.Errorf("%q %v %v %v", text, y, e, f)
		}
	}
}

// P4.9: one digit that was changed is noticed.
func TestChangedDigits(t *testing.T) {
	for _, x := range append(ourCastles(), smallCastle()) {
		text, _ := castle.Print(x)
		for i, c := range []byte(text) {
			if c < '0' || c > '9' {
				continue
			}
			for digit := byte('0'); digit <= '9'; digit++ {
				changed := text[:i] + string(digit) + text[i+1:]
				if y, e := castle.Read(x.Table, changed); digit != c && (e != api.ErrText || !isNone(y)) {
					t.Errorf("%q %v %v", changed, y, e)
				}
			}
		}
	}
}

// noTexts are strings that have not the form, in each way, most of them with the CHECK that they should have.
func noTexts() []string {
	right := text("castle 8 1", "nozzle 0 5")
	end := func(line string) string { return strings.Replace(right, "end 038", line, 1) }
	all := []string{
		"", "\n", "\n\n", "end 000\n", text(), text(""), "castle 8 1", "castle 8 1\n", "end 038\n", right[:len(right)-1], right[1:], right + "\n", right + right, "\n" + right,
		end("end 38"), end("end 0038"), end("end 165"), end("end 037"), end("end 039"), end("end -38"), end("end +38"), end("end"), end("end "), end("end 038 "),
		end("end  038"), end(" end 038"), end("End 038"), end("end 038\nend 038"), end("end 03８"), end("end 038 0"), end("end\t038"), end("038"),
		strings.Replace(right, "end 038\n", "", 1), strings.ReplaceAll(right, "\n", "\r\n"), "\xff\xfe",
		text("", "castle 8 1", "nozzle 0 5"), text("castle 8 1", "", "nozzle 0 5"), text("castle 8 1", "nozzle 0 5", ""), text("castle 8 1", "castle 8 1"),
		text("nozzle 0 5"), text("nozzle 0 5", "castle 8 1"), text("nozzle 0 5", "nozzle 0 5"), text("castle 8 1", "nozzle 0 5", "castle 8 1"),
		text("castle 8 1", "end 038"), text("castle 8 1", "nozzle 0 5", "end 038"), text("castle 8 1", "end"),
		strings.Repeat("x", 200), strings.Repeat("\n", 200), strings.Repeat(" ", 200),
	}
	for _, line := range []string{
		"WORD", "WORD ", "WORD 8", "WORD 8 ", "WORD  8", "WORD 8 1 ", "WORD 8 1 0", "WORD 8  1", " WORD 8 1", "WORD  8 1", "WORDs 8 1", "xWORD 8 1", "WORD8 1", "8 1", "8 1 WORD",
		"WORD 08 1", "WORD 8 01", "WORD 00 1", "WORD 8 00", "WORD +8 1", "WORD 8 -1", "WORD -0 1", "WORD x 1", "WORD 8 x", "WORD 8x 1", "WORD 8 1.0", "WORD 8,1 1",
		"WORD ８ 1", "WORD 8 １", "WORD 1000 1", "WORD 8 1000", "WORD 8 99999999999999999999", "WORD 0x8 1", "WORD 8\t1", "WORD\t8 1", "WORD 1_0 1",
		"WORD / 1", "WORD 8 :", "WORD 8 1\x00", "WORD 8 \xff", "WORD 8 1\r", "word 8 1",
	} {
		all = append(all, text(strings.Replace(line, "WORD", "castle", 1), "nozzle 0 5"), text("castle 8 1", strings.Replace(line, "WORD", "nozzle", 1)),
			text("castle 8 1", "nozzle 0 5", strings.Replace(line, "WORD", "nozzle", 1)))
	}
	return append(all, text("Castle 8 1", "nozzle 0 5"), text("castle 8 1", "Nozzle 0 5"))
}

// P4.9: strings that have not the form are no texts, whatever the table is.
func TestReadOfNoText(t *testing.T) {
	if y, e := castle.Read(tableT(), text("castle 8 1", "nozzle 0 5")); e != api.OK || !sameCastle(y, smallCastle()) {
		t.Error(y, e)
	}
	for i, x := range noTexts() {
		if y, e := castle.Read(tableT(), x); e != api.ErrText || !isNone(y) {
			t.Errorf("%d: %q %v %v", i, x, y, e)
		}
		if y, e := castle.Read(api.NozzleTable{}, x); e != api.ErrText || !isNone(y) {
			t.Errorf("%d: %q %v %v", i, x, y, e)
		}
	}
}

// P4.9: a text with any number of nozzles, and with any numbers, has the form; what is too long comes first.
func TestReadOfWrongCastles(t *testing.T) {
	many := func(count int, line string) string {
		return text(append([]string{"castle 8 1"}, slices.Repeat([]string{line}, count)...)...)
	}
	// long returns a text of so many bytes, whose last nozzles have longer numbers.
	long := func(size int) string {
		lines := slices.Concat([]string{"castle 8 1"}, slices.Repeat([]string{"nozzle 1 1"}, 16))
		for i := len(text(lines...)); i < size; i++ {
			lines[size-i] += "0"
		}
		return text(lines...)
	}
	if len(long(200)) != 200 || len(long(201)) != 201 {
		t.Error(len(long(200)), len(long(201)))
	}
	for i, x := range []struct {
		text string
		e    api.Errno
	}{
		{text("castle 8 1"), api.ErrArg},
		{text("castle 40 100", "nozzle 2 40"), api.OK},
		{text("castle 0 0", "nozzle 0 0"), api.OK},
		{text("castle 41 100", "nozzle 2 40"), api.ErrArg},
		{text("castle 40 101", "nozzle 2 40"), api.ErrArg},
		{text("castle 40 100", "nozzle 3 40"), api.ErrArg},
		{text("castle 40 100", "nozzle 2 41"), api.ErrArg},
		{text("castle 40 100", "nozzle 2 40", "nozzle 3 0"), api.ErrArg},
		{text("castle 999 999", "nozzle 999 999"), api.ErrArg},
		{text("castle 999 999", "nozzle 999 1000"), api.ErrText},
		{many(6, "nozzle 2 40"), api.OK},
		{many(7, "nozzle 2 40"), api.ErrArg},
		{many(16, "nozzle 2 4"), api.ErrArg},
		{many(100, "nozzle 2 4"), api.ErrLong},
		{long(200), api.ErrArg},
		{long(201), api.ErrLong},
		{strings.Repeat("x", 201), api.ErrLong},
		{strings.Repeat("\n", 100000), api.ErrLong},
	} {
		y, e := castle.Read(tableT(), x.text)
		if e != x.e || e != api.OK && !isNone(y) {
			t.Errorf("%d: %q %v %v", i, x.text, y, e)
		}
	}
}

// P4.9: a table that is not as defined is an error, but after those of the text; a castle is one of its table.
func TestReadWithTables(t *testing.T) {
	right := text("castle 20 5", "nozzle 0 10", "nozzle 2 12")
	for i, x := range wrongTables() {
		if y, e := castle.Read(x, right); e != api.ErrArg || !isNone(y) {
			t.Error(i, y, e)
		}
		if y, e := castle.Read(x, right+" "); e != api.ErrText || !isNone(y) {
			t.Error(i, y, e)
		}
		if y, e := castle.Read(x, strings.Repeat(" ", 201)); e != api.ErrLong || !isNone(y) {
			t.Error(i, y, e)
		}
	}
	if y, e := castle.Read(tableOf(1, 2), right); e != api.ErrArg || !isNone(y) {
		t.Error(y, e)
	}
	if y, e := castle.Read(tableOf(1, 2, 3), right); e != api.OK || !sameCastle(y, basin(tableOf(1, 2, 3), 20, 5, 0, 10, 2, 12)) {
		t.Error(y, e)
	}
}
