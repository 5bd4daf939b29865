package channel_test

import (
	"math/rand/v2"
	"slices"
	"strconv"
	"strings"
	"testing"

	"quinaria/api"
	"quinaria/channel"
)

// text returns lines with the CHECK that they should have.
func text(lines ...string) string {
	total := 0
	for i, line := range lines {
		for j, c := range []byte(line) {
			total += int(c) * (j + 1) * (i + 1)
		}
	}
	check := strconv.Itoa(1000 + total%139)[1:]
	return strings.Join(append(slices.Clone(lines), "end "+check), "\n") + "\n"
}

// P2.8: the texts of the chapter, of its line p, and of the greatest numbers.
func TestPrint(t *testing.T) {
	for i, x := range []struct {
		l    api.ChannelLine
		want string
	}{
		{one(stretch(10, 20, 0, 0, 5)), "speeds 7\nstretch 10 20 0 0 5\nend 036\n"},
		{lineP(), text("speeds 10 20 30", "stretch 20 30 1 4 10", "stretch 24 25 0 0 5", "stretch 10 20 2 10 10")},
		{fullLine(), text(append([]string{"speeds" + strings.Repeat(" 1000", 10)}, slices.Repeat([]string{"stretch 100 100 9 100 100"}, 8)...)...)},
	} {
		if y, e := channel.Print(x.l); y != x.want || e != api.OK {
			t.Errorf("%d: %q %v", i, y, e)
		}
	}
	for i, l := range wrongLines() {
		if y, e := channel.Print(l); y != "" || e != api.ErrArg {
			t.Errorf("%d: %q %v", i, y, e)
		}
	}
}

// P2.8, P0.11: what was written is read as what was written.
func TestReadOfPrint(t *testing.T) {
	r := rand.New(rand.NewPCG(2, 8))
	all := []api.ChannelLine{lineP(), fullLine(), one(stretch(1, 1, 0, 0, 0)), one(stretch(100, 100, 0, 100, 100))}
	for range 300 {
		all = append(all, someLine(r, 8, 100))
	}
	for _, l := range all {
		text, e := channel.Print(l)
		y, f := channel.Read(text)
		if e != api.OK || f != api.OK || !sameLine(l, y) {
			t.Errorf("%q %v %v %v", text, y, e, f)
		}
	}
}

// P2.8: one digit that was changed is noticed.
func TestChangedDigits(t *testing.T) {
	for _, l := range []api.ChannelLine{lineP(), fullLine(), one(stretch(10, 20, 0, 0, 5))} {
		text, _ := channel.Print(l)
		for i, c := range []byte(text) {
			if c < '0' || c > '9' {
				continue
			}
			for digit := byte('0'); digit <= '9'; digit++ {
				changed := text[:i] + string(digit) + text[i+1:]
				if y, e := channel.Read(changed); digit != c && (e != api.ErrText || !isNone(y)) {
					t.Errorf("%q %v %v", changed, y, e)
				}
			}
		}
	}
}

// P2.8: strings that have not the form, in each way, with the CHECK that they should have.
func TestReadOfNoText(t *testing.T) {
	right := text("speeds 7", "stretch 10 20 0 0 5")
	for i, x := range []string{
		"", "\n", "\n\n", "end 000\n", text(), text(""), "speeds 7", "speeds 7\n", "end 036\n", right[:len(right)-1], right[1:], right + "\n", right + right, "\n" + right,
		strings.Replace(right, "end 036", "end 36", 1), strings.Replace(right, "end 036", "end 0036", 1), strings.Replace(right, "end 036", "end 175", 1),
		strings.Replace(right, "end 036", "end 035", 1), strings.Replace(right, "end 036", "end 037", 1), strings.Replace(right, "end 036", "end -36", 1),
		strings.Replace(right, "end 036", "end", 1), strings.Replace(right, "end 036", "end ", 1), strings.Replace(right, "end 036", "end 036 ", 1),
		strings.Replace(right, "end 036", "end  036", 1), strings.Replace(right, "end 036", " end 036", 1), strings.Replace(right, "end 036", "End 036", 1),
		strings.Replace(right, "end 036\n", "", 1), strings.Replace(right, "end 036", "end 036\nend 036", 1), strings.ReplaceAll(right, "\n", "\r\n"),
		strings.Replace(right, "end 036", "end 03６", 1),
		text("speeds "), text("speeds 7 "), text(" speeds 7"), text("speeds  7"), text("Speeds 7"), text("speed 7"), text("speedss 7"), text("speeds7"),
		text("speeds 07"), text("speeds 00"), text("speeds +7"), text("speeds -7"), text("speeds -0"), text("speeds x"), text("speeds 7x"), text("speeds 7.0"),
		text("speeds ７"), text("speeds 10000"), text("speeds 99999999999999999999"), text("speeds 0x7"), text("speeds 7\t8"), text("speeds\t7"),
		text("speeds /"), text("speeds :"), text("speeds 7\x00"), text("speeds \xff"), text("speeds 7,8"), text("speeds 1 2 3 x"),
		text("speeds 7", ""), text("speeds 7", "speeds 7"), text("speeds 7", "speeds"), text("stretch 10 20 0 0 5"), text("stretch 10 20 0 0 5", "speeds 7"),
		text("speeds 7", "stretch"), text("speeds 7", "stretch "), text("speeds 7", "stretch 10 20 0 0"), text("speeds 7", "stretch 10 20 0 0 5 5"),
		text("speeds 7", "stretch 10 20 0 0 05"), text("speeds 7", "stretch 10 20 0 00 5"), text("speeds 7", "stretch 10 20 -1 0 5"),
		text("speeds 7", "stretch 10 20 0 0 5 "), text("speeds 7", "stretch  10 20 0 0 5"), text("speeds 7", " stretch 10 20 0 0 5"),
		text("speeds 7", "stretch 10000 20 0 0 5"), text("speeds 7", "stretch 10 20 0 0 5\r"), text("speeds 7", "Stretch 10 20 0 0 5"),
		text("speeds 7", "stretch 10 20 0 0 5", ""), text("speeds 7", "end 036"), text("speeds 7", "stretch 10 20 0 0 5", "end 036"),
		text("speeds 7", "stretch 10 20 0 0 5", "speeds 7"), text("speeds 7", "stretch 10 20 0 0 5", "stretch 10 20 0 0 x"),
		"\xff\xfe", strings.Repeat("x", 300), strings.Repeat("\n", 300), strings.Repeat(" ", 300),
	} {
		if y, e := channel.Read(x); e != api.ErrText || !isNone(y) {
			t.Errorf("%d: %q %v %v", i, x, y, e)
		}
	}
}

// P2.8: a text with any numbers, and with any number of speeds and stretches, has the form; what is too long comes first.
func TestReadOfWrongLines(t *testing.T) {
	good := "stretch 10 20 0 0 5"
	long := func(size int) string {
		lines := []string{"speeds 7"}
		rest := size - len(text(lines...)) - len("stretch 1 1 0 0 0\n")*14
		lines[0] += strings.Repeat(" 1", rest/2)
		if rest%2 == 1 {
			lines[0] += "1"
		}
		return text(append(lines, slices.Repeat([]string{"stretch 1 1 0 0 0"}, 14)...)...)
	}
	if len(long(300)) != 300 || len(long(301)) != 301 {
		t.Error(len(long(300)), len(long(301)))
	}
	for i, x := range []struct {
		text string
		e    api.Errno
	}{
		{text("speeds"), api.ErrArg},
		{text("speeds 7"), api.ErrArg},
		{text("speeds", good), api.ErrArg},
		{text("speeds 0", good), api.ErrArg},
		{text("speeds 1001", good), api.ErrArg},
		{text("speeds 9999 0 7", good), api.ErrArg},
		{text("speeds"+strings.Repeat(" 7", 10), good), api.OK},
		{text("speeds"+strings.Repeat(" 7", 11), good), api.ErrArg},
		{text(append([]string{"speeds 7"}, slices.Repeat([]string{good}, 8)...)...), api.OK},
		{text(append([]string{"speeds 7"}, slices.Repeat([]string{good}, 9)...)...), api.ErrArg},
		{text("speeds 7", "stretch 0 20 0 0 5"), api.ErrArg},
		{text("speeds 7", "stretch 101 20 0 0 5"), api.ErrArg},
		{text("speeds 7", "stretch 10 0 0 0 5"), api.ErrArg},
		{text("speeds 7", "stretch 10 9999 0 0 5"), api.ErrArg},
		{text("speeds 7", "stretch 10 20 1 0 5"), api.ErrArg},
		{text("speeds 7", "stretch 10 20 0 6 5"), api.ErrArg},
		{text("speeds 7", "stretch 10 20 0 0 101"), api.ErrArg},
		{text("speeds 0", "stretch 10 20 0 0 x"), api.ErrText},
		{long(300), api.ErrArg},
		{long(301), api.ErrLong},
		{strings.Repeat("x", 301), api.ErrLong},
		{strings.Repeat("\n", 100000), api.ErrLong},
	} {
		y, e := channel.Read(x.text)
		if e != x.e || e != api.OK && !isNone(y) {
			t.Errorf("%d: %q %v %v", i, x.text, y, e)
		}
	}
}
