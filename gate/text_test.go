package gate_test

import (
	"math/rand/v2"
	"slices"
	"strconv"
	"strings"
	"testing"

	"quinaria/api"
	"quinaria/gate"
)

// text returns lines with the CHECK that they should have.
func text(lines ...string) string {
	sum, all := 0, ""
	for i, line := range lines {
		for j := range len(line) {
			sum += (i + 1) * (j + 1) * int(line[j])
		}
		all += line + "\n"
	}
	check := strconv.Itoa(1000 + sum%149)
	return all + "end " + check[1:] + "\n"
}

const smallText = "point 5 5 0\npoint 0 0 3\ngate 0 1 4\nend 142\n"

// longNet is a network with the longest text.
func longNet() api.GateNet {
	return changed(fullNet(), func(n *api.GateNet) {
		for k := range n.Channels {
			n.Channels[k].Gate = false
		}
	})
}

// P8.8: the chapter's text, those of its network n, and of the greatest numbers.
func TestPrint(t *testing.T) {
	for i, x := range []struct {
		n    api.GateNet
		want string
	}{
		{smallNet(), smallText}, {onePoint(), text("point 7 9 7")}, {net(points(0, 10000, 10000)), text("point 0 10000 10000")},
		{netN(), text("point 100 120 0", "point 0 0 0", "point 0 0 40", "point 0 0 50", "gate 0 1 100", "gate 0 1 95", "channel 1 2 50", "gate 1 3 60", "gate 2 3 30")},
		{idleNet(), text("point 0 0 0", "point 0 5 0", "point 0 0 0", "gate 0 1 0", "gate 1 2 0", "channel 2 0 0")},
		{fullNet(), text(slices.Concat(slices.Repeat([]string{"point 10000 10000 10000"}, 7), strings.Split("channel 0 1 10000,gate 1 2 10000,gate 2 3 10000,gate 3 4 10000,gate 4 5 10000,gate 5 6 10000,gate 6 0 10000,gate 6 5 10000,channel 1 0 10000,channel 0 6 10000", ","))...)},
	} {
		if y, e := gate.Print(x.n); y != x.want || e != api.OK {
			t.Errorf("%d: %q %v", i, y, e)
		}
	}
	for i, x := range wrongNets() {
		if y, e := gate.Print(x); y != "" || e != api.ErrArg {
			t.Errorf("%d: %q %v", i, y, e)
		}
	}
}

// P8.8, P0.11: what was written is read as what was written, also of the longest texts.
func TestReadOfPrint(t *testing.T) {
	for _, x := range append(someNets(rand.New(rand.NewPCG(8, 15)), 800, 7), longNet()) {
		text, e := gate.Print(x)
		y, f := gate.Read(text)
		if e != api.OK || f != api.OK || !sameNet(x, y) {
			t.Errorf("%q %v %v %v", text, y, e, f)
		}
	}
}

// P8.8: one digit that was changed is noticed.
func TestChangedDigits(t *testing.T) {
	for _, x := range append(someNets(rand.New(rand.NewPCG(8, 16)), 30, 7), longNet()) {
		text, _ := gate.Print(x)
		for i := range text {
			for digit := '0'; digit <= '9' && '0' <= text[i] && text[i] <= '9'; digit++ {
				changed := text[:i] + string(digit) + text[i+1:]
				if y, e := gate.Read(changed); changed != text && (e != api.ErrText || !isNone(y)) {
					t.Errorf("%q %v %v", changed, y, e)
				}
			}
		}
	}
}

// wrongLinesOf returns what is no line with a word.
func wrongLinesOf(word string) []string {
	right := word + " 1 1 1"
	wrong := []string{
		"", word, word + " ", word + " 1", word + " 1 1", right + " ", " " + right, right + " 1", word + "  1 1 1", word + " 1  1 1", word + "\t1 1 1", word + "1 1 1", "1 1 1", "1 " + right, "x" + right, word + "s 1 1 1",
		strings.ToUpper(right), right[1:], right + "\r", right + "\x00", "end 000", "end",
	}
	for _, digits := range []string{"01", "00", "00001", "+1", "-1", "-0", "x", "1x", "1.0", "1,0", "100000", "99999999999999999999", "0x1", "1_0", "/", ":", "１", "٣", "\xff", ""} {
		wrong = append(wrong, word+" "+digits+" 1 1", word+" 1 "+digits+" 1", word+" 1 1 "+digits)
	}
	return wrong
}

// noTexts are strings that have not the form of a text, most of them with the CHECK that they should have.
func noTexts() []string {
	point, channel, gated := "point 1 1 1", "channel 0 1 1", "gate 1 0 1"
	all := []string{
		"", "\n", "\n\n", "end 000", "end 001\n", "end 00\n", "end 0000\n", "\nend 000\n", "end 000\n\n", "end 000\nend 000\n", text(""), "point 1 1 1\n", smallText[1:], smallText[:len(smallText)-1], smallText + "\n", "\n" + smallText,
		smallText + smallText, strings.ReplaceAll(smallText, "\n", "\r\n"), strings.TrimSuffix(smallText, "end 142\n"), "\xff\xfe", strings.Repeat("x", 400), strings.Repeat("\n", 400), strings.Repeat(" ", 400),
		text(channel, point), text(gated, point), text(point, channel, point), text(point, point, gated, point), text(point, point, channel, gated, point), text("", point), text(point, ""), text(point, "", point),
	}
	for _, end := range []string{"", "end", "end ", "end 42", "end 0142", "end 141", "end 143", "end 291", "end 440", "end -42", "end 142 ", " end 142", "end  142", "End 142", "end\t142", "end 142 0", "end 14２", "142", "end 142\nend 142"} {
		all = append(all, strings.Replace(smallText, "end 142", end, 1))
	}
	for _, word := range []string{"point", "channel", "gate", "gates", "node", "end"} {
		for _, wrong := range wrongLinesOf(word) {
			all = append(all, text(wrong), text(point, wrong), text(point, point, wrong, channel), text(point, point, gated, wrong))
		}
	}
	return all
}

// P8.8: strings that have not the form are no texts.
func TestReadOfNoText(t *testing.T) {
	if y, e := gate.Read(text("point 1 1 1", "point 1 1 1", "channel 0 1 1", "gate 1 0 1")); e != api.OK || !sameNet(y, net(points(1, 1, 1, 1, 1, 1), 0, 1, 1, 0, 1, 0, 1, 1)) {
		t.Error(y, e)
	}
	for i, x := range noTexts() {
		if y, e := gate.Read(x); e != api.ErrText || !isNone(y) {
			t.Errorf("%d: %q %v %v", i, x, y, e)
		}
	}
}

// P8.8: a text has the form with any number of points and channels, also without any, and with any numbers; what is too long comes first.
func TestReadOfWrongNets(t *testing.T) {
	many := func(points, channels, gates int) string {
		return text(slices.Concat(slices.Repeat([]string{"point 0 0 0"}, points), slices.Repeat([]string{"channel 0 1 5"}, channels), slices.Repeat([]string{"gate 1 0 5"}, gates))...)
	}
	if len(longText(400)) != 400 || len(longText(401)) != 401 {
		t.Error(len(longText(400)), len(longText(401)))
	}
	two := "point 5 5 0"
	for i, x := range []struct {
		text string
		e    api.Errno
	}{
		{"end 000\n", api.ErrArg}, {text(), api.ErrArg}, {text("channel 0 1 4"), api.ErrArg}, {text("gate 0 1 4"), api.ErrArg}, {text("gate 0 1 4", "channel 0 1 4"), api.ErrArg}, {text("point 5 5 0"), api.OK}, {text("point 6 5 0"), api.ErrArg},
		{text("point 0 10000 10000"), api.OK}, {text("point 0 10001 10000"), api.ErrArg}, {text("point 0 10000 10001"), api.ErrArg}, {text("point 10001 10001 0"), api.ErrArg}, {text("point 99999 99999 99999"), api.ErrArg}, {text("point 99999 99999 100000"), api.ErrText},
		{text(two, two, "channel 0 1 10000"), api.OK}, {text(two, two, "channel 0 1 10001"), api.ErrArg}, {text(two, two, "gate 0 2 1"), api.ErrArg}, {text(two, two, "gate 2 0 1"), api.ErrArg}, {text(two, two, "gate 1 1 1"), api.ErrArg},
		{text(two, two, "gate 99999 99999 99999"), api.ErrArg}, {text(two, two, "gate 1 0 1", "channel 1 0 1", "gate 1 0 1"), api.OK}, {many(7, 3, 7), api.OK}, {many(8, 0, 0), api.ErrArg}, {many(7, 4, 7), api.ErrArg}, {many(7, 2, 8), api.ErrArg},
		{many(2, 10, 0), api.OK}, {many(2, 11, 0), api.ErrArg}, {many(2, 0, 8), api.ErrArg}, {many(32, 0, 0), api.ErrArg}, {many(33, 0, 0), api.ErrLong}, {longText(400), api.ErrArg}, {longText(401), api.ErrLong},
		{strings.Repeat("x", 401), api.ErrLong}, {strings.Repeat("\n", 100000), api.ErrLong}, {strings.Repeat(smallText, 20), api.ErrLong},
	} {
		y, e := gate.Read(x.text)
		if e != x.e || e != api.OK && !isNone(y) {
			t.Errorf("%d: %q %v %v", i, x.text, y, e)
		}
	}
}

// longText returns a text of so many bytes, of 30 points and a little more.
func longText(size int) string {
	lines := slices.Repeat([]string{"point 0 0 0"}, 30)
	for i := len(text(lines...)); i < size; i++ {
		line := (size - i) / 3
		lines[line] = strings.Replace(lines[line], " 0", " 10", 1)
	}
	return text(lines...)
}
