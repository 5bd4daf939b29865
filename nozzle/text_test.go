package nozzle_test

import (
	"math/rand/v2"
	"slices"
	"strconv"
	"strings"
	"testing"

	"quinaria/api"
	"quinaria/nozzle"
)

// text returns lines with the CHECK that they should have.
func text(lines ...string) string {
	total := 0
	for i, line := range lines {
		for j, c := range []byte(line) {
			total += int(c) * (j + 1) * (i + 1)
		}
	}
	check := strconv.Itoa(1000 + total%151)[1:]
	return strings.Join(append(slices.Clone(lines), "end "+check), "\n") + "\n"
}

// P3.6: the texts of the chapter, of its table t, and of the greatest numbers.
func TestPrint(t *testing.T) {
	for i, x := range []struct {
		t    api.NozzleTable
		want string
	}{
		{leastTable(), "table 0\nrow 1 1 1\nend 021\n"},
		{tableT(), text("table 50", "row 5 4 10", "row 10 8 20", "row 20 15 45")},
		{fullTable(), text(append([]string{"table 100"}, slices.Repeat([]string{"row 60 60 1000"}, 12)...)...)},
	} {
		if y, e := nozzle.Print(x.t); y != x.want || e != api.OK {
			t.Errorf("%d: %q %v", i, y, e)
		}
	}
	for i, x := range wrongTables() {
		if y, e := nozzle.Print(x); y != "" || e != api.ErrArg {
			t.Errorf("%d: %q %v", i, y, e)
		}
	}
}

// P3.6, P0.11: what was written is read as what was written.
func TestReadOfPrint(t *testing.T) {
	r := rand.New(rand.NewPCG(3, 10))
	all := []api.NozzleTable{tableT(), fullTable(), leastTable(), fairTable(), halfFair()}
	for range 300 {
		all = append(all, someTable(r, 12))
	}
	for _, x := range all {
		text, e := nozzle.Print(x)
		y, f := nozzle.Read(text)
		if e != api.OK || f != api.OK || !sameTable(x, y) {
			t.Errorf("%q %v %v %v", text, y, e, f)
		}
	}
}

// P3.6: one digit that was changed is noticed.
func TestChangedDigits(t *testing.T) {
	for _, x := range []api.NozzleTable{tableT(), fullTable(), leastTable()} {
		text, _ := nozzle.Print(x)
		for i, c := range []byte(text) {
			if c < '0' || c > '9' {
				continue
			}
			for digit := byte('0'); digit <= '9'; digit++ {
				changed := text[:i] + string(digit) + text[i+1:]
				if y, e := nozzle.Read(changed); digit != c && (e != api.ErrText || !isNone(y)) {
					t.Errorf("%q %v %v", changed, y, e)
				}
			}
		}
	}
}

// P3.6: strings that have not the form, in each way, with the CHECK that they should have.
func TestReadOfNoText(t *testing.T) {
	right := text("table 0", "row 1 1 1")
	end := func(line string) string { return strings.Replace(right, "end 021", line, 1) }
	for i, x := range []string{
		"", "\n", "\n\n", "end 000\n", text(), text(""), "table 0", "table 0\n", "end 021\n", right[:len(right)-1], right[1:], right + "\n", right + right, "\n" + right,
		end("end 21"), end("end 0021"), end("end 172"), end("end 020"), end("end 022"), end("end -21"), end("end +21"), end("end"), end("end "), end("end 021 "),
		end("end  021"), end(" end 021"), end("End 021"), end("end 021\nend 021"), end("end 02１"), end("end 021 0"), end("end\t021"), end("021"),
		strings.Replace(right, "end 021\n", "", 1), strings.ReplaceAll(right, "\n", "\r\n"),
		text("table"), text("table "), text("table 0 "), text(" table 0"), text("table  0"), text("Table 0"), text("tabl 0"), text("tables 0"), text("table0"), text("table 0 0"),
		text("table 00"), text("table 07"), text("table +7"), text("table -7"), text("table -0"), text("table x"), text("table 7x"), text("table 7.0"),
		text("table ７"), text("table 10000"), text("table 99999999999999999999"), text("table 0x7"), text("table\t7"), text("table 1_0"),
		text("table /"), text("table :"), text("table 7\x00"), text("table \xff"), text("table 7,8"),
		text("table 0", ""), text("table 0", "table 0"), text("row 1 1 1"), text("row 1 1 1", "table 0"), text("row 1 1 1", "row 1 1 1"),
		text("table 0", "row"), text("table 0", "row "), text("table 0", "row 1 1"), text("table 0", "row 1 1 1 1"), text("table 0", "row 1 1 01"),
		text("table 0", "row 1 00 1"), text("table 0", "row -1 1 1"), text("table 0", "row 1 1 1 "), text("table 0", "row  1 1 1"), text("table 0", " row 1 1 1"),
		text("table 0", "row 10000 1 1"), text("table 0", "row 1 1 1\r"), text("table 0", "Row 1 1 1"), text("table 0", "rows 1 1 1"), text("table 0", "row 1 1 x"),
		text("table 0", "row 1 1 1", ""), text("table 0", "end 021"), text("table 0", "row 1 1 1", "end 021"), text("table 0", "row 1 1 1", "table 0"),
		text("", "table 0", "row 1 1 1"), text("table 0", "", "row 1 1 1"), "\xff\xfe", strings.Repeat("x", 300), strings.Repeat("\n", 300), strings.Repeat(" ", 300),
	} {
		if y, e := nozzle.Read(x); e != api.ErrText || !isNone(y) {
			t.Errorf("%d: %q %v %v", i, x, y, e)
		}
	}
}

// P3.6: a text with any number of rows, and with any numbers, has the form; what is too long comes first.
func TestReadOfWrongTables(t *testing.T) {
	many := func(count int, line string) string {
		return text(append([]string{"table 7"}, slices.Repeat([]string{line}, count)...)...)
	}
	// long returns a text of so many bytes, whose last rows have longer numbers.
	long := func(size int) string {
		lines := []string{"table 7"}
		for range 28 {
			lines = append(lines, "row 1 1 1")
		}
		for i := len(text(lines...)); i < size; i++ {
			lines[size-i] += "0"
		}
		return text(lines...)
	}
	if len(long(300)) != 300 || len(long(301)) != 301 {
		t.Error(len(long(300)), len(long(301)))
	}
	for i, x := range []struct {
		text string
		e    api.Errno
	}{
		{text("table 0"), api.ErrArg},
		{text("table 9999"), api.ErrArg},
		{text("table 101", "row 1 1 1"), api.ErrArg},
		{text("table 100", "row 1 1 1"), api.OK},
		{text("table 9999", "row 1 1 1"), api.ErrArg},
		{text("table 0", "row 0 1 1"), api.ErrArg},
		{text("table 0", "row 1 0 1"), api.ErrArg},
		{text("table 0", "row 1 1 0"), api.ErrArg},
		{text("table 0", "row 61 1 1"), api.ErrArg},
		{text("table 0", "row 1 61 1"), api.ErrArg},
		{text("table 0", "row 1 1 1001"), api.ErrArg},
		{text("table 0", "row 9999 9999 9999"), api.ErrArg},
		{text("table 0", "row 1 1 1", "row 0 0 0"), api.ErrArg},
		{text("table 0", "row 60 60 1000"), api.OK},
		{many(12, "row 60 60 1000"), api.OK},
		{many(13, "row 60 60 1000"), api.ErrArg},
		{text("table 101", "row 1 1 x"), api.ErrText},
		{long(300), api.ErrArg},
		{long(301), api.ErrLong},
		{many(14, "row 9999 9999 9999"), api.ErrArg},
		{many(100, "row 1 1 1"), api.ErrLong},
		{strings.Repeat("x", 301), api.ErrLong},
		{strings.Repeat("\n", 100000), api.ErrLong},
	} {
		y, e := nozzle.Read(x.text)
		if e != x.e || e != api.OK && !isNone(y) {
			t.Errorf("%d: %q %v %v", i, x.text, y, e)
		}
	}
}
