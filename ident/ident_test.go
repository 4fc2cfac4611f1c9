package ident_test

import (
	"math"
	"slices"
	"strconv"
	"strings"
	"testing"

	"rafter/api"
	"rafter/ident"
)

// id is an id of a patch.
func id(patch string, n int) api.Id { return api.Id{Patch: patch, N: n} }

// ids is a list of ids.
func ids(l ...api.Id) []api.Id { return l }

// told tells ids in few words, those that may not be, too.
func told(l ...api.Id) string {
	var s strings.Builder
	for _, x := range l[:min(len(l), 8)] {
		s.WriteString(" " + strconv.Quote(x.Patch) + " " + strconv.Itoa(x.N) + ",")
	}
	return strconv.Itoa(len(l)) + ":" + s.String()
}

// names are names, as long and as short as names may be; noNames are texts that are none (the empty one is not among them).
var (
	names   = []string{"a", "z", "0", "9", "-", "_", "...", "a.b", "add-the-list_2.0", "1", "07", "-1", strings.Repeat("a", 40), strings.Repeat(".", 40)}
	noNames = []string{".", "..", "A", "a b", " ", "#", "a#", "#1", "a#1", "a/b", "/", "a\n", "\x00", "a+", "é", "\xff", strings.Repeat("a", 41), strings.Repeat("a", 1<<16)}
)

// P11.1: the three that no patch made.
func TestOfNoPatch(t *testing.T) {
	for n, x := range ids(ident.Root(), ident.Begin(), ident.End()) {
		if x != id("", n) || !ident.Right(x) || ident.Text(x) != "#"+strconv.Itoa(n) {
			t.Errorf("number %d of no patch is %s %q", n, told(x), ident.Text(x))
		}
	}
}

// rightOne looks whether an id that may be is told so, by its text, and comes back.
func rightOne(t *testing.T, x api.Id, text string) {
	t.Helper()
	if !ident.Right(x) || ident.Text(x) != text {
		t.Errorf("Right, Text of %s = %v, %q, want true, %q", told(x), ident.Right(x), ident.Text(x), text)
	}
	if got, e := ident.Parse(text); got != x || e != api.OK {
		t.Errorf("Parse(%q) = %s %d, want %s", text, told(got), e, told(x))
	}
}

// wrongOne looks whether an id that may not be is told so.
func wrongOne(t *testing.T, x api.Id) {
	t.Helper()
	if ident.Right(x) || ident.Text(x) != "" {
		t.Errorf("Right, Text of %s = %v, %q", told(x), ident.Right(x), ident.Text(x))
	}
}

// P11.1, P11.4: ids that may be, at the edges that the chapter names.
func TestRight(t *testing.T) {
	rightOne(t, id("", 0), "#0")
	rightOne(t, id("", 1), "#1")
	rightOne(t, id("", 2), "#2")
	rightOne(t, id("a", 2), "a#2")
	rightOne(t, id("...", 1048576), "...#1048576")
	for _, s := range names {
		for _, n := range []int{0, 1, 2, 3, 9, 10, 11, 99, 100, 101, 1000, 2000, 65536, 99999, 1000000, 1<<20 - 1, 1 << 20} {
			rightOne(t, id(s, n), s+"#"+strconv.Itoa(n))
		}
	}
}

// P11.1, R5: ids that may not be, of each kind.
func TestRightWrong(t *testing.T) {
	beyond := []int{-1, -2, math.MinInt, math.MinInt32, 1<<20 + 1, 1 << 21, math.MaxInt32, 1 << 32, 1<<32 + 1, math.MaxInt}
	for _, n := range append(beyond, 3, 4, 1<<20) {
		wrongOne(t, id("", n))
	}
	for _, s := range names {
		for _, n := range beyond {
			wrongOne(t, id(s, n))
		}
	}
	for _, s := range noNames {
		for _, n := range append(beyond, 0, 1, 2, 3, 1<<20) {
			wrongOne(t, id(s, n))
		}
	}
}

// P11.1, P11.4: each number that a patch may have given.
func TestEachNumber(t *testing.T) {
	for n := range 1<<20 + 1 {
		x := id("a", n)
		if got, e := ident.Parse(ident.Text(x)); !ident.Right(x) || got != x || e != api.OK {
			t.Fatalf("Right of %s = %v, Parse of its text %q = %s %d", told(x), ident.Right(x), ident.Text(x), told(got), e)
		}
	}
}

// P11.1, R2: texts that are no id's, with no id beside the error.
func TestParseWrong(t *testing.T) {
	wrong := []string{
		"", "#", "##", "#3", "#10", "#-1", "#-0", "#+0", "#00", "#01", "#002", "#1048576", "#1#", "#1#1", "##1", " #1", "# 1", "#1 ", "#a", "1", "12", "a", "a1", "abc",
		"a#", "a#a", "a##", "a##1", "a#1#", "a#1#2", "#a#1", "a#00", "a#01", "a#0000001", "a#010", "a#-1", "a#-0", "a#+0", "a#+1", "a# 1", "a#1 ", " a#1", "a #1", "a#1\n", "\na#1", "a#1\x00", "a#\x001",
		"a#1_0", "a#_1", "a#1_", "a#0x1", "a#0b1", "a#0o1", "a#1e3", "a#1.0", "a#.5", "a#1,000", "a#٣", "a#３", "a＃1", "a#1\xff", "a#½",
		"a#1048577", "a#1048580", "a#1999999", "a#2000000", "a#9999999", "a#10485760", "a#2147483648", "a#4294967296", "a#4294967297", "a#9223372036854775807", "a#9223372036854775808",
		"a#18446744073709551615", "a#18446744073709551616", "a#18446744073709551617", "a#-18446744073709551615", "#18446744073709551618", "a#" + strings.Repeat("9", 1<<16), "a#" + strings.Repeat("0", 1<<16) + "1",
	}
	for _, s := range noNames {
		wrong = append(wrong, s+"#0", s+"#1", s+"#1048576")
	}
	for _, s := range wrong {
		if x, e := ident.Parse(s); e != api.ErrForm || x != (api.Id{}) {
			t.Errorf("Parse(%.50q) = %s %d, want no id, and %d", s, told(x), e, api.ErrForm)
		}
	}
}

// texts calls f with each text of up to n of these bytes.
func texts(n int, bytes string, f func(string)) {
	var grow func(string)
	grow = func(s string) {
		f(s)
		for i := range len(bytes) {
			if len(s) < n {
				grow(s + bytes[i:i+1])
			}
		}
	}
	grow("")
}

// P11.1, P11.4: each short text is one id's, or none's.
func TestEachText(t *testing.T) {
	const bytes = "#0129a.-+_ A"
	isText := map[string]api.Id{"#0": id("", 0), "#1": id("", 1), "#2": id("", 2)}
	texts(3, "0129a.-_", func(s string) {
		if s == "" || s == "." || s == ".." {
			return
		}
		for n := range 1000 {
			isText[s+"#"+strconv.Itoa(n)] = id(s, n)
		}
	})
	found := 0
	texts(5, bytes, func(s string) {
		want, is := isText[s]
		x, e := ident.Parse(s)
		if (e == api.OK) != is || x != want || !is && e != api.ErrForm {
			t.Errorf("Parse(%q) = %s %d, want %s %v", s, told(x), e, told(want), is)
		}
		if is {
			found++
			if got := ident.Text(x); got != s {
				t.Errorf("Text of %s = %q, want %q", told(x), got, s)
			}
		}
	})
	// Of no patch 3; behind names of one, two, three bytes (8, 8 times 8, without points alone) as many numbers as have room: 4 of one byte, 16 less 4 that begin with a nought of two, and so on.
	if want := 3 + 7*(4+12+48) + 63*(4+12) + 512*4; found != want {
		t.Errorf("%d texts are ids', want %d", found, want)
	}
}

// rising are ids that rise, those that may not be among them.
func rising() []api.Id {
	return ids(id("", math.MinInt), id("", -1), id("", 0), id("", 1), id("", 2), id("", 3), id("", math.MaxInt), id("\x00", 0), id("!", 5), id("-", 7), id(".", 1), id("A", 9),
		id("a", math.MinInt), id("a", -1), id("a", 0), id("a", 1), id("a", 2), id("a", 9), id("a", 10), id("a", 11), id("a", 1<<20), id("a", math.MaxInt), id("a\x00", 0), id("a!", 0), id("a#1", 0), id("a-", 0), id("a-b", 0), id("a1", 0), id("a1", 1), id("aa", 0), id("ab", math.MinInt), id("b", 0), id("é", 0), id("\xff", 0))
}

// P11.2, R5: each two of ids that rise.
func TestLess(t *testing.T) {
	l := rising()
	for i, a := range l {
		for j, b := range l {
			if ident.Less(a, b) != (i < j) {
				t.Errorf("Less of %s and %s = %v", told(a), told(b), i >= j)
			}
		}
	}
}

// P11.2: sets, of any ids.
func TestSet(t *testing.T) {
	for _, c := range []struct{ l, want []api.Id }{
		{nil, nil}, {ids(), nil}, {ids(id("", 0)), ids(id("", 0))}, {ids(id("", 0), id("", 0)), ids(id("", 0))},
		{ids(id("b", 0), id("a", 0), id("b", 0)), ids(id("a", 0), id("b", 0))}, {ids(id("a", 10), id("a", 9), id("a", 10), id("a", 1)), ids(id("a", 1), id("a", 9), id("a", 10))},
		{ids(id("a", 0), id("", 2), id("a", 1), id("", 0), id("", 1)), ids(id("", 0), id("", 1), id("", 2), id("a", 0), id("a", 1))}, {ids(id("b", 0), id("a", 1), id("a-", 0)), ids(id("a", 1), id("a-", 0), id("b", 0))},
		{ids(id("A", 7), id("", 3), id("a", -1), id("A", 7)), ids(id("", 3), id("A", 7), id("a", -1))},
	} {
		if got := ident.Set(c.l...); !slices.Equal(got, c.want) {
			t.Errorf("Set of %s = %s, want %s", told(c.l...), told(got...), told(c.want...))
		}
	}
	if got := ident.Set(); len(got) != 0 {
		t.Errorf("Set of none = %s", told(got...))
	}
	l := rising()
	for range l {
		l = append(l[1:], l[0], l[2], l[0])
		if got := ident.Set(l...); !slices.Equal(got, rising()) {
			t.Fatalf("Set of %s = %s", told(l...), told(got...))
		}
	}
}

// P11.2: what is in a list of any order, and what is not.
func TestHas(t *testing.T) {
	l := ids(id("c", 3), id("", 2), id("a", 0), id("c", 3), id("A", -1))
	for _, x := range l {
		if !ident.Has(l, x) {
			t.Errorf("Has of %s, %s = false", told(l...), told(x))
		}
	}
	for _, x := range ids(id("", 0), id("", 3), id("c", 2), id("c", 0), id("a", 3), id("a", 1), id("A", 1), id("A", 0), id("cc", 3), id("b", 0)) {
		if ident.Has(l, x) {
			t.Errorf("Has of %s, %s = true", told(l...), told(x))
		}
	}
	if ident.Has(nil, id("", 0)) || ident.Has(ids(), id("a", 0)) || ident.Has(ids(id("a", 0)), id("", 0)) {
		t.Error("Has: an id that is not there")
	}
}

// lists calls f with each list of up to n of these ids.
func lists(n int, of []api.Id, f func([]api.Id)) {
	var grow func([]api.Id)
	grow = func(l []api.Id) {
		f(l)
		for _, x := range of {
			if len(l) < n {
				grow(append(slices.Clone(l), x))
			}
		}
	}
	grow(nil)
}

// P11.2: all lists of up to three of four ids, and all pairs of them, against the words.
func TestEachPairOfLists(t *testing.T) {
	of := ids(id("", 0), id("a", 0), id("a", 2), id("b", 0))
	lists(3, of, func(a []api.Id) {
		var want []api.Id
		for _, x := range of {
			in := slices.IndexFunc(a, func(y api.Id) bool { return y.Patch == x.Patch && y.N == x.N }) >= 0
			if ident.Has(a, x) != in {
				t.Errorf("Has of %s, %s = %v", told(a...), told(x), !in)
			}
			if in {
				want = append(want, x)
			}
		}
		if got := ident.Set(a...); !slices.Equal(got, want) {
			t.Errorf("Set of %s = %s, want %s", told(a...), told(got...), told(want...))
		}
		lists(3, of, func(b []api.Id) {
			meet := false
			for _, x := range b {
				meet = meet || slices.Contains(want, x)
			}
			if ident.Meet(a, b) != meet {
				t.Errorf("Meet of %s, %s = %v", told(a...), told(b...), !meet)
			}
		})
	})
}

// P11.2: long lists, with the only one that they have in common at each end, and of no patch.
func TestMeet(t *testing.T) {
	a, b := ident.Row("a", 0, 2000), ident.Row("a", 2000, 2000)
	if ident.Meet(a, b) || ident.Meet(b, a) || ident.Meet(a, ident.Row("b", 0, 2000)) {
		t.Error("lists meet that have none in common")
	}
	for _, x := range ids(a[0], a[1], a[999], a[1999]) {
		for _, l := range [][]api.Id{append(slices.Clone(b), x), append(ids(x), b...), ids(x)} {
			if !ident.Meet(a, l) || !ident.Meet(l, a) {
				t.Errorf("lists do not meet that have %s", told(x))
			}
		}
	}
	if !ident.Meet(ids(ident.End()), ids(ident.Root(), ident.End())) || ident.Meet(ids(ident.End()), ids(ident.Root(), ident.Begin())) {
		t.Error("ids of no patch")
	}
	if !ident.Meet(rising(), ids(id("a", math.MinInt))) || !ident.Meet(ids(id("a#1", 0)), rising()) {
		t.Error("ids that may not be")
	}
	if ident.Meet(nil, nil) || ident.Meet(a, nil) || ident.Meet(nil, a) || ident.Meet(ids(), a) || ident.Meet(a, ids()) {
		t.Error("nothing meets something")
	}
}

// P11.3, R5: rows, at the edges that the chapter names.
func TestRow(t *testing.T) {
	for _, first := range []int{0, 1, 2, 1<<20 - 1, 1 << 20, 1<<20 + 1, math.MaxInt - 2000} {
		for _, n := range []int{1, 2, 3, 1999, 2000} {
			for _, s := range []string{"a", "", "A b"} {
				row := ident.Row(s, first, n)
				if len(row) != n {
					t.Fatalf("Row of %q, %d, %d = %s", s, first, n, told(row...))
				}
				for i, x := range row {
					if x != id(s, first+i) {
						t.Fatalf("Row of %q, %d, %d has %s at %d", s, first, n, told(x), i)
					}
				}
			}
		}
	}
	if got := ident.Row("a", math.MaxInt, 1); !slices.Equal(got, ids(id("a", math.MaxInt))) {
		t.Errorf("Row from the last number on = %s", told(got...))
	}
	// Beyond the last number numbers come round.
	if got := ident.Row("a", math.MaxInt, 2); !slices.Equal(got, ids(id("a", math.MaxInt), id("a", math.MinInt))) {
		t.Errorf("Row beyond the last number = %s", told(got...))
	}
}

// P11.3, R5: rows that are none.
func TestRowWrong(t *testing.T) {
	for _, c := range []struct{ first, n int }{
		{-1, 1}, {-1, 2}, {-1, 2000}, {-2000, 2000}, {math.MinInt, 1}, {math.MinInt, math.MaxInt}, {math.MinInt, math.MinInt},
		{0, 0}, {0, -1}, {0, 2001}, {0, 2002}, {5, 0}, {5, -2000}, {5, 1 << 20}, {0, math.MinInt}, {0, math.MaxInt}, {math.MaxInt, 0}, {math.MaxInt, 2001}, {math.MaxInt, math.MaxInt}, {math.MaxInt, math.MinInt}, {-1, 0}, {-1, 2001}, {0, 1 << 32}, {0, 1<<32 + 1},
	} {
		if got := ident.Row("a", c.first, c.n); len(got) != 0 {
			t.Errorf("Row of %d, %d = %s", c.first, c.n, told(got...))
		}
	}
}

// P11.3: the patches of ids, of those that may not be, too.
func TestPatches(t *testing.T) {
	for _, c := range []struct {
		l    []api.Id
		want []string
	}{
		{nil, nil}, {ids(), nil}, {ids(ident.Root(), ident.Begin(), ident.End(), id("", 3), id("", -1)), nil}, {ids(id("a", 0)), []string{"a"}}, {ids(id("a", 0), id("a", 1), id("a", 0)), []string{"a"}},
		{ids(id("b", 0), id("", 1), id("a", 5), id("b", 1)), []string{"a", "b"}}, {ids(id("a1", 0), id("a-", 0), id("a10", 0), id("a", 9), id("a2", 0)), []string{"a", "a-", "a1", "a10", "a2"}},
		{ids(id("b", -1), id("A b", 0), id("\xff", 2), id("a#1", 1<<21), id("é", 0)), []string{"A b", "a#1", "b", "é", "\xff"}}, {ident.Row("a", 0, 2000), []string{"a"}},
	} {
		if got := ident.Patches(c.l...); !slices.Equal(got, c.want) {
			t.Errorf("Patches of %s = %q, want %q", told(c.l...), got, c.want)
		}
	}
	if got := ident.Patches(); len(got) != 0 {
		t.Errorf("Patches of none = %q", got)
	}
}

// P11.2, P11.3, R3: what is handed in stays as it is, its spare room too.
func TestListsStayAsTheyAre(t *testing.T) {
	for _, begin := range [][]api.Id{ids(id("c", 1), id("", 0), id("c", 1), id("a", 2), id("y", 0), id("z", 0)), rising(), ids(id("a", 0), id("a", 0), id("a", 0), id("b", 0), id("b", 0))} {
		a, b := slices.Clone(begin), slices.Clone(begin)
		ident.Set(a[:4]...)
		ident.Patches(a[:4]...)
		ident.Has(a[:4], id("z", 0))
		ident.Meet(a[:4], b[1:4])
		ident.Meet(b[2:3], a[:4])
		if !slices.Equal(a, begin) || !slices.Equal(b, begin) {
			t.Errorf("%s became %s, %s", told(begin...), told(a...), told(b...))
		}
	}
}

// P11.2, P11.3, R3: answers are memory of their own, and stay as they are.
func TestAnswersStayAsTheyAre(t *testing.T) {
	for _, begin := range [][]api.Id{ids(id("b", 0), id("a", 0), id("b", 0)), ids(id("a", 0), id("b", 0), id("c", 0))} {
		l := slices.Clone(begin)
		set, patches := ident.Set(l...), ident.Patches(l...)
		kept, keptPatches := slices.Clone(set), slices.Clone(patches)
		again, patchesAgain := ident.Set(l...), ident.Patches(l...)
		again[0], patchesAgain[0] = id("x", 9), "x"
		if !slices.Equal(l, begin) {
			t.Errorf("what is answered of %s is memory that was handed in", told(begin...))
		}
		clear(l)
		if !slices.Equal(set, kept) || !slices.Equal(patches, keptPatches) {
			t.Errorf("answers became %s, %q, were %s, %q", told(set...), patches, told(kept...), keptPatches)
		}
	}
	row := ident.Row("a", 0, 3)
	clear(ident.Row("a", 0, 3))
	if !slices.Equal(row, ids(id("a", 0), id("a", 1), id("a", 2))) {
		t.Errorf("Row: an answer became %s", told(row...))
	}
}
