package lines_test

import (
	"math"
	"slices"
	"strings"
	"testing"
	"unicode/utf8"

	"rafter/api"
	"rafter/code"
	"rafter/lines"
)

// many are n lines, each of which says the same.
func many(n int, line string) []string { return slices.Repeat([]string{line}, n) }

// rightLines are texts that are lines, at the edges that the chapter names.
func rightLines() []string {
	return []string{
		"", " ", "a", "a b", "\t", "\ta\t\t", " a ", "~", "\x7f", "#", "+", "é", "€", "𝄞", "日本語",
		"\u0080", "\u0085", "\u00a0", "\u2028", "\ufeff", "\ufffd", "\uffff", "\U0010ffff",
		"\ud7ff\ue000", "e\u0301",
		strings.Repeat("a", 199), strings.Repeat("a", 200), strings.Repeat("\t", 200),
		strings.Repeat("é", 100), strings.Repeat("€", 66) + "ab", strings.Repeat("𝄞", 50),
	}
}

// wrongLines are texts that are no lines.
func wrongLines() []string {
	return []string{
		"\n", "a\n", "\na", "a\nb", "\r", "a\r", "a\x00", "\x00", "\x01", "\x08", "\x0b", "\x0c", "\x1f", "a\x1bb", "\ta\x07",
		"\xff", "a\xff", "\x80", "\xbf", "a\x80b", "\xc3", "é\xc3", "\xe2\x82", "\xf0\x9d\x84", "\xe9t\xe9",
		"\xc0\x80", "\xc1\xbf", "\xc0\x8a", "\xe0\x80\x8a", "\xe0\x9f\xbf", "\xf0\x80\x80\x8a", "\xf0\x8f\xbf\xbf", // longer than the rune asks for
		"\xed\xa0\x80", "\xed\xbf\xbf", "\xed\xa0\x80\xed\xb0\x80", // halves of a pair
		"\xf4\x90\x80\x80", "\xf5\x80\x80\x80", "\xfe", "\xfc\x80\x80\x80\x80\x80", // above the greatest rune
		strings.Repeat("a", 201), strings.Repeat("a", 200) + "\t", strings.Repeat("a", 200) + "é",
		strings.Repeat("é", 100) + "a", strings.Repeat("a", 199) + "é", strings.Repeat("€", 67), strings.Repeat("𝄞", 50) + "a",
		strings.Repeat("a", 199) + "\xc3", strings.Repeat("a", 199) + "\x1f", strings.Repeat("a", 1<<20),
	}
}

// P3.1: texts that are lines, and texts that are none.
func TestRight(t *testing.T) {
	for _, s := range rightLines() {
		if !lines.Right(s) {
			t.Errorf("Right(%q) = false", s)
		}
	}
	for _, s := range wrongLines() {
		if lines.Right(s) {
			t.Errorf("Right(%q) = true", s)
		}
	}
}

// P3.1: each rune, alone and between others.
func TestRightOfEachRune(t *testing.T) {
	for r := rune(0); r <= utf8.MaxRune; r++ {
		if !utf8.ValidRune(r) {
			continue
		}
		want := r >= 32 || r == 9
		if s := string(r); lines.Right(s) != want || lines.Right("a"+s+"é") != want {
			t.Errorf("Right of the rune %d is not %v", r, want)
		}
	}
}

// P3.1: each text of one byte, and of two.
func TestRightOfFewBytes(t *testing.T) {
	plain := func(b byte) bool { return b < 128 && (b >= 32 || b == 9) }
	for i := range 256 {
		a := byte(i)
		if one := string([]byte{a}); lines.Right(one) != plain(a) {
			t.Errorf("Right(%q) = %v", one, !plain(a))
		}
		for j := range 256 {
			b := byte(j)
			want := plain(a) && plain(b) || a >= 0xc2 && a <= 0xdf && b >= 0x80 && b <= 0xbf
			if two := string([]byte{a, b}); lines.Right(two) != want {
				t.Errorf("Right(%q) = %v", two, !want)
			}
		}
	}
}

// P3.1: each length about the greatest one, and a byte that is none of a line's at each place.
func TestRightAtEachPlace(t *testing.T) {
	for n := range 204 {
		s := strings.Repeat("a", n)
		if got := lines.Right(s); got != (n <= 200) {
			t.Errorf("Right of %d bytes = %v", n, got)
		}
		for i := range n {
			for _, wrong := range []string{"\n", "\x00", "\xff"} {
				if lines.Right(s[:i] + wrong + s[i+1:]) {
					t.Errorf("Right of %d bytes with %q at %d = true", n, wrong, i)
				}
			}
		}
	}
}

// P3.1: lines that may be a file's.
func TestCheck(t *testing.T) {
	for what, l := range map[string][]string{
		"nil":        nil,
		"none":       {},
		"an empty":   {""},
		"one":        {"a"},
		"twice":      {"a", "a"},
		"all right":  rightLines(),
		"2000":       many(2000, ""),
		"2000 great": many(2000, strings.Repeat("a", 200)),
	} {
		if e := lines.Check(l); e != api.OK {
			t.Errorf("Check of %s = %d", what, e)
		}
	}
}

// P3.1: lines that may not be a file's; too many is told ahead of lines that are none.
func TestCheckWrong(t *testing.T) {
	for _, n := range []int{2001, 2002, 1 << 16} {
		if e := lines.Check(many(n, "a")); e != api.ErrBig {
			t.Errorf("Check of %d lines = %d", n, e)
		}
		if e := lines.Check(many(n, "\x00")); e != api.ErrBig {
			t.Errorf("Check of %d that are no lines = %d", n, e)
		}
	}
	for _, wrong := range wrongLines() {
		for at := range 3 {
			l := []string{"a", "", "b"}
			l[at] = wrong
			if e := lines.Check(l); e != api.ErrForm {
				t.Errorf("Check(%q) = %d", l, e)
			}
		}
	}
	l := many(2000, "a")
	l[1999] = "\r"
	if e := lines.Check(l); e != api.ErrForm {
		t.Errorf("Check of 2000, the last one of which is no line = %d", e)
	}
}

type textCase struct {
	list []string
	text string
}

// texts are lines, and their text.
func texts() []textCase {
	return []textCase{
		{nil, ""},
		{[]string{}, ""},
		{[]string{""}, "\n"},
		{[]string{"", ""}, "\n\n"},
		{[]string{"a"}, "a\n"},
		{[]string{"a", ""}, "a\n\n"},
		{[]string{"", "a"}, "\na\n"},
		{[]string{"a", "b c", "\td"}, "a\nb c\n\td\n"},
		{[]string{"é", "\u2028", "\u0085"}, "é\n\u2028\n\u0085\n"},
		{many(2000, ""), strings.Repeat("\n", 2000)},
		{many(2000, "ab"), strings.Repeat("ab\n", 2000)},
		{[]string{strings.Repeat("a", 200)}, strings.Repeat("a", 200) + "\n"},
	}
}

// P3.1: the text of lines, and the lines of a text.
func TestTextAndSplit(t *testing.T) {
	for _, c := range texts() {
		if got := lines.Text(c.list); got != c.text {
			t.Errorf("Text(%q) = %q, want %q", c.list, got, c.text)
		}
		if got, e := lines.Split(c.text); !slices.Equal(got, c.list) || e != api.OK {
			t.Errorf("Split(%q) = %q, %d, want %q", c.text, got, e, c.list)
		}
	}
}

// P3.1: what is handed to Text is asked for nothing: each text, and a line end.
func TestTextOfNoLines(t *testing.T) {
	if got := lines.Text([]string{"a\nb", "\x00\xff", "\r"}); got != "a\nb\n\x00\xff\n\r\n" {
		t.Errorf("Text = %q", got)
	}
	if got := lines.Text(many(2001, "a")); got != strings.Repeat("a\n", 2001) {
		t.Errorf("Text of 2001 lines has %d bytes", len(got))
	}
}

// refused looks whether an error is the one that is wanted, and nothing is told beside it.
func refused(t *testing.T, what string, l []string, e, want api.Errno) {
	t.Helper()
	if e != want || len(l) != 0 {
		t.Errorf("%s = %d lines, error %d, want error %d", what, len(l), e, want)
	}
}

// P3.1: texts that are no lines' text; that the last line has no end is told first, then that there are too many lines.
func TestSplitWrong(t *testing.T) {
	for _, s := range []string{
		"a", " ", "\t", "\r", "\x00", "\xff", "a\nb", "\n\na", "a\n\x00", "\na\r",
		strings.Repeat("a\n", 1999) + "a", strings.Repeat("a\n", 2000) + "a", strings.Repeat("\n", 5000) + "a",
		strings.Repeat("a", 201), "a\n" + strings.Repeat("a", 201),
		"a\u2028", "a\u0085",
	} {
		l, e := lines.Split(s)
		refused(t, "Split of a text without a line end", l, e, api.ErrForm)
	}
	for _, s := range wrongLines() {
		if strings.Contains(s, "\n") {
			continue
		}
		for _, text := range []string{s + "\n", "a\n" + s + "\n", s + "\nb\n", strings.Repeat("a\n", 1999) + s + "\n"} {
			l, e := lines.Split(text)
			refused(t, "Split of a text with what is no line", l, e, api.ErrForm)
		}
	}
	for _, s := range []string{
		strings.Repeat("\n", 2001), strings.Repeat("a\n", 2001), strings.Repeat("a\n", 2002), strings.Repeat("\x00\n", 2001),
		strings.Repeat("a\n", 2000) + "\xff\n", strings.Repeat("a\n", 2000) + strings.Repeat("a", 201) + "\n", strings.Repeat("\n", 1<<24),
	} {
		l, e := lines.Split(s)
		refused(t, "Split of a text of too many lines", l, e, api.ErrBig)
	}
}

// P3.1: only a line end ends a line: no other one of those that some programs take for one.
func TestSplitAtLineEndsAlone(t *testing.T) {
	if l, e := lines.Split("a\u2028b\u2029c\u0085d\n"); !slices.Equal(l, []string{"a\u2028b\u2029c\u0085d"}) || e != api.OK {
		t.Errorf("Split = %q, %d", l, e)
	}
	l, e := lines.Split("a\r\nb\r\n")
	refused(t, "Split at carriage returns", l, e, api.ErrForm)
}

// lists calls f with each list of up to n of these texts.
func lists(n int, of []string, f func([]string)) {
	var grow func([]string)
	grow = func(l []string) {
		f(l)
		for _, s := range of {
			if len(l) < n {
				grow(append(slices.Clone(l), s))
			}
		}
	}
	grow(nil)
}

// P3.2: the same lines, in the same order, as often.
func TestSame(t *testing.T) {
	for _, c := range []struct {
		a, b []string
		want bool
	}{
		{nil, nil, true},
		{nil, []string{}, true},
		{nil, []string{""}, false},
		{[]string{""}, []string{"", ""}, false},
		{[]string{"a"}, []string{"a"}, true},
		{[]string{"a"}, []string{"A"}, false},
		{[]string{"a"}, []string{"a "}, false},
		{[]string{"a"}, []string{"a", ""}, false},
		{[]string{"a"}, []string{"", "a"}, false},
		{[]string{"a", "b"}, []string{"a", "b"}, true},
		{[]string{"a", "b"}, []string{"b", "a"}, false},
		{[]string{"a", "b"}, []string{"a", "c"}, false},
		{[]string{"a", "b"}, []string{"c", "b"}, false},
		{[]string{"a", "b"}, []string{"a", "b", "b"}, false},
		{[]string{"a", "b"}, []string{"ab"}, false},
		{[]string{"ab", "c"}, []string{"a", "bc"}, false},
		{[]string{"a", "b"}, []string{"a\nb"}, false},
		{[]string{"\u00e9"}, []string{"e\u0301"}, false},
		{[]string{"\xff"}, []string{"\xfe"}, false},
		{[]string{"\xff"}, []string{"\ufffd"}, false},
		{[]string{"\xff"}, []string{"\xff"}, true},
		{many(3000, "a"), many(3000, "a"), true},
		{many(3000, "a"), many(2999, "a"), false},
	} {
		if lines.Same(c.a, c.b) != c.want || lines.Same(c.b, c.a) != c.want {
			t.Errorf("Same(%q, %q) = %v", c.a, c.b, !c.want)
		}
	}
}

// slowFind tells as the chapter's words do where part stands first, not below from.
func slowFind(l, part []string, from int) int {
	for at := 0; at <= len(l); at++ {
		stands := at >= from
		for i, line := range part {
			stands = stands && at+i < len(l) && l[at+i] == line
		}
		if stands {
			return at
		}
	}
	return -1
}

// P3.2: each short list, and each place from which it is looked for, against the words.
func TestFindInEachList(t *testing.T) {
	of := []string{"a", "b"}
	lists(6, of, func(l []string) {
		lists(4, of, func(part []string) {
			for from := -2; from <= len(l)+2; from++ {
				if got, want := lines.Find(l, part, from), slowFind(l, part, from); got != want {
					t.Errorf("Find(%q, %q, %d) = %d, want %d", l, part, from, got, want)
				}
			}
		})
	})
}

// P3.2: places at the edges of all numbers, no lines at all, and lines that say less or more.
func TestFind(t *testing.T) {
	l := []string{"a", "b", "", "a", "b", "c"}
	for _, c := range []struct {
		part       []string
		from, want int
	}{
		{[]string{"a", "b"}, 0, 0},
		{[]string{"a", "b"}, 1, 3},
		{[]string{"a", "b"}, 3, 3},
		{[]string{"a", "b"}, 4, -1},
		{[]string{"a", "b", "c"}, 0, 3},
		{[]string{"b", "c"}, 4, 4},
		{[]string{"b", "c"}, 5, -1},
		{[]string{"c"}, 5, 5},
		{[]string{"c"}, 6, -1},
		{[]string{"c", ""}, 0, -1},
		{[]string{""}, 0, 2},
		{[]string{"a b"}, 0, -1},
		{[]string{"a\nb"}, 0, -1},
		{[]string{"ab"}, 0, -1},
		{l, 0, 0},
		{l, 1, -1},
		{append(slices.Clone(l), "d"), 0, -1},
		{many(100, "a"), 0, -1},
		{nil, 0, 0},
		{[]string{}, 3, 3},
		{nil, 6, 6},
		{nil, 7, -1},
		{nil, math.MinInt, 0},
		{nil, math.MaxInt, -1},
		{[]string{"a"}, -1, 0},
		{[]string{"a"}, math.MinInt, 0},
		{[]string{"a"}, math.MaxInt, -1},
		{[]string{"a"}, math.MaxInt - 1, -1},
		{[]string{"c"}, math.MinInt + 1, 5},
	} {
		if got := lines.Find(l, c.part, c.from); got != c.want {
			t.Errorf("Find(%q, %q, %d) = %d, want %d", l, c.part, c.from, got, c.want)
		}
	}
	if got := lines.Find(nil, []string{"a"}, 0); got != -1 {
		t.Errorf("Find in nothing = %d", got)
	}
	if lines.Find(nil, nil, 0) != 0 || lines.Find([]string{}, []string{}, math.MinInt) != 0 || lines.Find(nil, nil, 1) != -1 {
		t.Error("Find of nothing in nothing")
	}
}

// P3.3: lines are laid as a list of texts, and read again.
func TestPutAndGet(t *testing.T) {
	for _, c := range texts() {
		want := code.List(c.list...)
		if got, e := lines.Put(c.list); got != want || e != api.OK {
			t.Errorf("Put(%q) = %q, %d, want %q", c.list, got, e, want)
		}
		if got, e := lines.Get(want); !slices.Equal(got, c.list) || e != api.OK {
			t.Errorf("Get(%q) = %q, %d, want %q", want, got, e, c.list)
		}
	}
	if got, e := lines.Put([]string{"a", "", "bc"}); got != "\x03\x01a\x00\x02bc" || e != api.OK {
		t.Errorf("Put = %q, %d", got, e)
	}
}

// P3.3: lines that may not be a file's are neither laid nor read.
func TestPutAndGetCheck(t *testing.T) {
	try := func(l []string, want api.Errno) {
		t.Helper()
		if s, e := lines.Put(l); s != "" || e != want {
			t.Errorf("Put = %d bytes, error %d, want error %d", len(s), e, want)
		}
		got, e := lines.Get(code.List(l...))
		refused(t, "Get", got, e, want)
	}
	for _, s := range wrongLines() {
		try([]string{s}, api.ErrForm)
		try([]string{"a", s}, api.ErrForm)
		try([]string{s, "", "a"}, api.ErrForm)
	}
	try(many(2001, "a"), api.ErrBig)
	try(many(2001, "\n"), api.ErrBig)
	try(append(many(2000, "a"), "\xff"), api.ErrBig)
}

// P3.3: bytes that are no list, or more than one; what is wrong with them is told ahead of what is wrong with the lines.
func TestGetWrong(t *testing.T) {
	short, form := api.ErrShort, api.ErrForm
	for _, c := range []struct {
		bytes string
		err   api.Errno
	}{
		{"", short},
		{"\x80", short},
		{"\x01", short},
		{"\x02\x01a", short},
		{"\x01\x02a", short},
		{"\x02\x01\n", short},
		{"\x02\x01\n\x80", short},
		{code.Num(math.MaxUint64) + "\x00", short},
		{"\x80\x00", form},
		{"\x01\x81\x00", form},
		{"\x02\x01a\x81\x00", form},
		{strings.Repeat("\xff", 9) + "\x02", form},
		{"\x00\x00", form},
		{"\x00a", form},
		{"\x01\x01a\x00", form},
		{"\x01\x01a\x01\x01a", form},
		{"\x01\x01\n\x00", form},
		{code.List(many(2000, "a")...) + "\x00", form},
		{code.List(many(2001, "a")...) + "\x00", form}, // bytes that are left are named ahead of too many lines (R2)
		{code.List(many(2001, "a")...), api.ErrBig},
	} {
		l, e := lines.Get(c.bytes)
		refused(t, "Get", l, e, c.err)
	}
	whole := code.List("a", "", "é")
	for i := range len(whole) {
		l, e := lines.Get(whole[:i])
		refused(t, "Get of a list that is cut", l, e, short)
	}
}

// back looks whether lines come back as they are, by both ways.
func back(t *testing.T, l []string) {
	t.Helper()
	if got, e := lines.Split(lines.Text(l)); !slices.Equal(got, l) || e != api.OK {
		t.Errorf("of %q Split of Text = %q, %d", l, got, e)
	}
	s, e := lines.Put(l)
	if e != api.OK {
		t.Errorf("Put(%q) = %d", l, e)
	}
	if got, e := lines.Get(s); !slices.Equal(got, l) || e != api.OK {
		t.Errorf("of %q Get of Put = %q, %d", l, got, e)
	}
}

// P3.4: lines come back: all short lists of some, and those of the greatest measures.
func TestBack(t *testing.T) {
	lists(4, []string{"", "a", "\t", "é b", strings.Repeat("x", 200)}, func(l []string) { back(t, l) })
	back(t, rightLines())
	back(t, many(2000, strings.Repeat("€", 66)+"ab"))
	for n := range 2000 {
		if n%97 == 0 {
			back(t, append(many(n, ""), "a"))
		}
	}
}

// P3.4: each text of few parts is either refused, or the very text of the lines that are told.
func TestBackIsTheVeryText(t *testing.T) {
	lists(6, []string{"\n", "a", "\t", "\r", "\xff"}, func(parts []string) {
		s := strings.Join(parts, "")
		ends := s == "" || parts[len(parts)-1] == "\n"
		right := ends && !strings.ContainsAny(s, "\r") && utf8.ValidString(s)
		l, e := lines.Split(s)
		if !right {
			refused(t, "Split", l, e, api.ErrForm)
		} else if e != api.OK || lines.Text(l) != s {
			t.Errorf("Split(%q) = %q, %d", s, l, e)
		}
	})
}

// P3.1 to P3.3, R3: what is handed in stays as it is, its spare room too.
func TestListsStayAsTheyAre(t *testing.T) {
	begin := []string{"b", "a", "b", "c", "spare", "room"}
	for _, n := range []int{0, 2, 4, 6} {
		a, b := slices.Clone(begin), slices.Clone(begin)
		lines.Check(a[:n])
		lines.Text(a[:n])
		lines.Same(a[:n], b[:2])
		lines.Find(a[:n], b[2:3], 1)
		lines.Put(a[:n])
		if !slices.Equal(a, begin) || !slices.Equal(b, begin) {
			t.Errorf("what was handed in changed: %q %q", a, b)
		}
	}
}

// P3.1, P3.3, R3, R4: what is told is memory of its own, and the same each time.
func TestAnswersStayAsTheyAre(t *testing.T) {
	put, _ := lines.Put([]string{"a", "b"})
	for what, call := range map[string]func() ([]string, api.Errno){
		"Split": func() ([]string, api.Errno) { return lines.Split("a\nb\n") },
		"Get":   func() ([]string, api.Errno) { return lines.Get(put) },
	} {
		first, _ := call()
		second, _ := call()
		_ = append(second, "changed")
		second[0] = "changed"
		third, _ := call()
		if want := []string{"a", "b"}; !slices.Equal(first, want) || !slices.Equal(third, want) {
			t.Errorf("%s tells %q, then %q", what, first, third)
		}
	}
}
