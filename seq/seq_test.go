package seq_test

import (
	"math"
	"slices"
	"strconv"
	"strings"
	"testing"

	"rafter/api"
	"rafter/commute"
	"rafter/prim"
	"rafter/seq"
	"rafter/tree"
)

// few tells lines in few words.
func few(l []string) string {
	if len(l) > 8 {
		return strconv.Itoa(len(l)) + " lines"
	}
	return strconv.Quote(strings.Join(l, "|"))
}

// told tells steps in few words.
func told(l ...api.Prim) string {
	var s strings.Builder
	for _, p := range l[:min(len(l), 8)] {
		s.WriteString("{" + strconv.Itoa(p.Kind) + " " + strconv.Quote(p.Path) + " " + strconv.Quote(p.To) + " " + strconv.Itoa(p.At) + " " + few(p.Old) + " " + few(p.New) + "}")
	}
	return strconv.Itoa(len(l)) + ":" + s.String()
}

// shown tells files in few words.
func shown(l []api.File) string {
	var s strings.Builder
	for _, f := range l[:min(len(l), 8)] {
		s.WriteString(" " + strconv.Quote(f.Path) + " " + strconv.FormatBool(f.Dir) + " " + few(f.Lines))
	}
	return strconv.Itoa(len(l)) + ":" + s.String()
}

// must makes a tree of files that may be one.
func must(t *testing.T, l ...api.File) tree.Tree {
	t.Helper()
	made, e := tree.Of(l...)
	if e != api.OK {
		t.Fatalf("Of %s = %d", shown(l), e)
	}
	return made
}

// dir is a directory, file a file.
func dir(p string) api.File               { return api.File{Path: p, Dir: true} }
func file(p string, l ...string) api.File { return api.File{Path: p, Lines: l} }

// mk, rmdir, touch, rm, mv and hunk are steps, one of each kind.
func mk(p string) api.Prim    { return api.Prim{Kind: 1, Path: p} }
func rmdir(p string) api.Prim { return api.Prim{Kind: 2, Path: p} }
func touch(p string) api.Prim { return api.Prim{Kind: 3, Path: p} }
func rm(p string) api.Prim    { return api.Prim{Kind: 4, Path: p} }
func mv(p, to string) api.Prim {
	return api.Prim{Kind: 5, Path: p, To: to}
}
func hunk(p string, at int, old, new []string) api.Prim {
	return api.Prim{Kind: 6, Path: p, At: at, Old: old, New: new}
}

// put is a hunk of the file f, of lines of one letter each.
func put(at int, old, new string) api.Prim { return hunk("f", at, letters(old), letters(new)) }

// row is a row of steps.
func row(l ...api.Prim) []api.Prim { return l }

// letters are lines of one letter each.
func letters(s string) []string {
	if s == "" {
		return nil
	}
	return strings.Split(s, "")
}

// many are n lines, each of which says the same.
func many(n int, line string) []string { return slices.Repeat([]string{line}, n) }

// noKind, noPath and noForm are steps that may not be, each by another error of prim.Check.
var (
	noKind = api.Prim{Kind: 7, Path: "a"}
	noPath = touch("A")
	noForm = put(-1, "", "x")
)

// slowPast does as the words of P10.1 say.
func slowPast(p api.Prim, l []api.Prim) ([]api.Prim, api.Prim, api.Errno) {
	if len(l) == 0 {
		return nil, p, api.OK
	}
	first, p, e := commute.Pair(p, l[0])
	if e != api.OK {
		return nil, api.Prim{}, e
	}
	rest, p, e := slowPast(p, l[1:])
	if e != api.OK {
		return nil, api.Prim{}, e
	}
	return slices.Concat(row(first), rest), p, api.OK
}

// slowSwap does as the words of P10.1 say.
func slowSwap(l []api.Prim, i int) ([]api.Prim, api.Errno) {
	for k := range l {
		if k == i && k+1 < len(l) {
			ahead, behind, e := commute.Pair(l[k], l[k+1])
			if e != api.OK {
				return nil, e
			}
			return slices.Concat(l[:k], row(ahead, behind), l[k+2:]), api.OK
		}
	}
	return nil, api.ErrRange
}

// slowFront does as the words of P10.1 say.
func slowFront(l []api.Prim, i int) ([]api.Prim, api.Errno) {
	if i == 0 && len(l) > 0 {
		return l, api.OK
	}
	next, e := slowSwap(l, i-1)
	if e != api.OK {
		return nil, e
	}
	return slowFront(next, i-1)
}

// slowRows does as the words of P10.2 say.
func slowRows(a, b []api.Prim) ([]api.Prim, []api.Prim, api.Errno) {
	if len(a) == 0 {
		return b, nil, api.OK
	}
	last := len(a) - 1
	b, p, e := slowPast(a[last], b)
	if e != api.OK {
		return nil, nil, e
	}
	b, rest, e := slowRows(a[:last], b)
	if e != api.OK {
		return nil, nil, e
	}
	return b, slices.Concat(rest, row(p)), api.OK
}

// slowNeeds does as the words of P10.3 say: neighbours change places, one by one, in the whole row, as long as all that go on together can get ahead of the next one.
func slowNeeds(l []api.Prim, i int) []int {
	if i < 0 || i >= len(l) {
		return nil
	}
	var needs []int
	for from, to := i-1, i; from >= 0; from-- {
		next, e := l, api.OK
		for k := from; k < to && e == api.OK; k++ {
			next, e = slowSwap(next, k)
		}
		if e != api.OK {
			needs = append([]int{from}, needs...)
			continue
		}
		l, to = next, to-1
	}
	return needs
}

// P10.1: neighbours that change places, that are known.
func TestSwap(t *testing.T) {
	l := row(touch("f"), put(0, "a", "bc"), put(4, "d", ""), mv("f", "g"), mk("d"))
	for _, c := range []struct {
		l    []api.Prim
		i    int
		want []api.Prim
		e    api.Errno
	}{
		{l, 0, nil, api.ErrClash}, {l, 1, row(l[0], put(3, "d", ""), put(0, "a", "bc"), l[3], l[4]), api.OK},
		{l, 2, row(l[0], l[1], l[3], hunk("g", 4, letters("d"), nil), l[4]), api.OK}, {l, 3, row(l[0], l[1], l[2], l[4], l[3]), api.OK},
		{l, 4, nil, api.ErrRange}, {l, 5, nil, api.ErrRange}, {l, 6, nil, api.ErrRange}, {l, -1, nil, api.ErrRange}, {l, -2, nil, api.ErrRange}, {l, math.MaxInt, nil, api.ErrRange}, {l, math.MaxInt - 1, nil, api.ErrRange}, {l, math.MinInt, nil, api.ErrRange},
		{nil, 0, nil, api.ErrRange}, {nil, -1, nil, api.ErrRange}, {nil, -2, nil, api.ErrRange}, {nil, math.MinInt, nil, api.ErrRange}, {row(), 0, nil, api.ErrRange}, {row(noKind), 0, nil, api.ErrRange}, {row(noKind), -1, nil, api.ErrRange}, {l[:2], 0, nil, api.ErrClash}, {l[1:3], 0, row(put(3, "d", ""), put(0, "a", "bc")), api.OK},
		{row(noKind, noPath, touch("a"), noForm, mk("b"), touch("b")), 0, nil, api.ErrArg}, {row(noKind, noPath, touch("a")), 1, nil, api.ErrPath}, {row(touch("a"), noForm), 0, nil, api.ErrForm}, {row(noForm, noPath), 0, nil, api.ErrForm}, {row(mk("b"), touch("b")), 0, nil, api.ErrClash},
		{row(noKind, mk("a"), mk("b"), noPath), 1, row(noKind, mk("b"), mk("a"), noPath), api.OK},
	} {
		if got, e := seq.Swap(c.l, c.i); e != c.e || !prim.SameAll(got, c.want) {
			t.Errorf("Swap of %s, %d = %s %d, want %s %d", told(c.l...), c.i, told(got...), e, told(c.want...), c.e)
		}
	}
}

// P10.1: steps that pass rows, that are known: each changes places with what the last one left of it.
func TestPast(t *testing.T) {
	for _, c := range []struct {
		p      api.Prim
		l      []api.Prim
		want   []api.Prim
		behind api.Prim
		e      api.Errno
	}{
		{mk("a"), nil, nil, mk("a"), api.OK}, {noKind, nil, nil, noKind, api.OK}, {noForm, row(), nil, noForm, api.OK},
		{mk("a"), row(mk("b")), row(mk("b")), mk("a"), api.OK},
		{put(0, "a", "bc"), row(put(4, "d", ""), put(9, "e", "xyz")), row(put(3, "d", ""), put(8, "e", "xyz")), put(0, "a", "bc"), api.OK},
		{put(9, "a", "bc"), row(put(4, "d", ""), put(0, "e", "xyz"), put(20, "", "w")), row(put(4, "d", ""), put(0, "e", "xyz"), put(19, "", "w")), put(10, "a", "bc"), api.OK},
		{put(3, "a", ""), row(mv("f", "g"), mk("d"), mv("g", "d/f"), put(0, "x", ""), hunk("d/f", 0, nil, letters("yz"))), row(mv("f", "g"), mk("d"), mv("g", "d/f"), put(0, "x", ""), hunk("d/f", 0, nil, letters("yz"))), hunk("d/f", 5, letters("a"), nil), api.OK},
		{mv("g", "f"), row(put(0, "a", "b"), touch("h"), put(7, "", "c")), row(hunk("g", 0, letters("a"), letters("b")), touch("h"), hunk("g", 7, nil, letters("c"))), mv("g", "f"), api.OK},
		// Ahead of the second one it can't be held against the third one as it was: that would touch it.
		{put(5, "a", "b"), row(put(0, "", "xyz"), put(6, "c", "d")), row(put(0, "", "xyz"), put(6, "c", "d")), put(8, "a", "b"), api.OK},
		{put(5, "a", "b"), row(put(0, "", "xyz"), put(9, "c", "d")), nil, api.Prim{}, api.ErrClash},
		{touch("a"), row(rm("a")), nil, api.Prim{}, api.ErrClash}, {touch("a"), row(mk("b"), touch("c"), rm("a")), nil, api.Prim{}, api.ErrClash},
		{touch("a"), row(noForm), nil, api.Prim{}, api.ErrForm}, {noPath, row(noForm), nil, api.Prim{}, api.ErrPath}, {noKind, row(mk("b")), nil, api.Prim{}, api.ErrArg},
		{touch("a"), row(mk("b"), noPath, rm("a"), noForm), nil, api.Prim{}, api.ErrPath}, {touch("a"), row(mk("b"), rm("a"), noForm), nil, api.Prim{}, api.ErrClash},
	} {
		if got, behind, e := seq.Past(c.p, c.l...); e != c.e || !prim.SameAll(got, c.want) || !prim.Same(behind, c.behind) {
			t.Errorf("Past of %s, %s = %s, %s %d, want %s, %s %d", told(c.p), told(c.l...), told(got...), told(behind), e, told(c.want...), told(c.behind), c.e)
		}
	}
}

// P10.1: steps that come to the front, that are known; those behind them stay, whatever they are.
func TestFront(t *testing.T) {
	l := row(put(0, "a", "bc"), mk("d"), put(4, "d", ""), put(9, "", "x"), mv("f", "d/f"), noKind)
	for _, c := range []struct {
		l    []api.Prim
		i    int
		want []api.Prim
		e    api.Errno
	}{
		{l, 0, l, api.OK}, {l, 1, row(l[1], l[0], l[2], l[3], l[4], l[5]), api.OK}, {l, 2, row(put(3, "d", ""), l[0], l[1], l[3], l[4], l[5]), api.OK},
		{l, 3, row(put(9, "", "x"), put(0, "a", "bc"), mk("d"), put(4, "d", ""), l[4], l[5]), api.OK},
		{l, 4, nil, api.ErrClash}, {l, 5, nil, api.ErrArg}, {l, 6, nil, api.ErrRange}, {l, -1, nil, api.ErrRange}, {l, math.MaxInt, nil, api.ErrRange}, {l, math.MinInt, nil, api.ErrRange},
		{nil, 0, nil, api.ErrRange}, {nil, -1, nil, api.ErrRange}, {row(), 0, nil, api.ErrRange}, {nil, math.MaxInt, nil, api.ErrRange},
		{row(noKind, noPath), 0, row(noKind, noPath), api.OK}, {row(noKind), 1, nil, api.ErrRange},
		{row(put(0, "a", "bc"), put(4, "d", ""), mv("f", "g")), 2, row(mv("f", "g"), hunk("g", 0, letters("a"), letters("bc")), hunk("g", 4, letters("d"), nil)), api.OK},
		// The one right ahead is asked first.
		{row(noPath, touch("a"), rm("a")), 2, nil, api.ErrClash}, {row(touch("b"), noForm, mk("b")), 2, nil, api.ErrForm}, {row(noKind, noPath, touch("b"), mk("c")), 3, nil, api.ErrPath}, {row(noKind, mk("a"), touch("b")), 2, nil, api.ErrArg}, {row(mk("a"), noKind), 1, nil, api.ErrArg},
	} {
		if got, e := seq.Front(c.l, c.i); e != c.e || !prim.SameAll(got, c.want) {
			t.Errorf("Front of %s, %d = %s %d, want %s %d", told(c.l...), c.i, told(got...), e, told(c.want...), c.e)
		}
	}
}

// P10.2: rows that change places, that are known.
func TestRows(t *testing.T) {
	for _, c := range []struct {
		a, b, ahead, behind []api.Prim
		e                   api.Errno
	}{
		{nil, nil, nil, nil, api.OK}, {row(), row(), nil, nil, api.OK}, {row(mk("a"), noKind), nil, nil, row(mk("a"), noKind), api.OK}, {nil, row(noForm, mk("a")), row(noForm, mk("a")), nil, api.OK},
		{row(mk("a")), row(mk("b")), row(mk("b")), row(mk("a")), api.OK}, {row(mk("a"), mk("b")), row(mk("c"), mk("d")), row(mk("c"), mk("d")), row(mk("a"), mk("b")), api.OK},
		{row(put(0, "", "x")), row(mv("f", "b")), row(mv("f", "b")), row(hunk("b", 0, nil, letters("x"))), api.OK},
		{row(mv("a", "b"), mv("b", "f")), row(put(0, "", "x"), put(5, "y", "")), row(hunk("a", 0, nil, letters("x")), hunk("a", 5, letters("y"), nil)), row(mv("a", "b"), mv("b", "f")), api.OK},
		{row(put(0, "", "ab"), put(10, "c", "")), row(put(5, "", "d"), put(20, "efg", "h")), row(put(3, "", "d"), put(19, "efg", "h")), row(put(0, "", "ab"), put(11, "c", "")), api.OK},
		{row(put(9, "", "ab"), put(0, "c", "")), row(put(5, "", "d"), mv("f", "g")), row(put(6, "", "d"), mv("f", "g")), row(hunk("g", 10, nil, letters("ab")), hunk("g", 0, letters("c"), nil)), api.OK},
		// The last one of a passes all of b first.
		{row(noForm, touch("a")), row(mk("b"), rm("a")), nil, nil, api.ErrClash}, {row(touch("a"), noForm), row(rm("a")), nil, nil, api.ErrForm}, {row(touch("a"), mk("b")), row(mk("c"), noPath, rm("a")), nil, nil, api.ErrPath}, {row(touch("a"), mk("b")), row(rm("a"), noPath), nil, nil, api.ErrPath}, {row(noKind, mk("b")), row(mk("c"), mk("d")), nil, nil, api.ErrArg},
		{row(noKind), row(noPath), nil, nil, api.ErrArg}, {row(mk("a")), row(noPath, noKind), nil, nil, api.ErrPath}, {row(touch("a"), mk("b")), row(mk("c"), rm("a")), nil, nil, api.ErrClash},
	} {
		if ahead, behind, e := seq.Rows(c.a, c.b); e != c.e || !prim.SameAll(ahead, c.ahead) || !prim.SameAll(behind, c.behind) {
			t.Errorf("Rows of %s, %s = %s, %s %d, want %s, %s %d", told(c.a...), told(c.b...), told(ahead...), told(behind...), e, told(c.ahead...), told(c.behind...), c.e)
		}
	}
}

// P10.3: what steps need, that is known.
func TestNeeds(t *testing.T) {
	for _, c := range []struct {
		l    []api.Prim
		i    int
		want []int
	}{
		{row(touch("f"), put(0, "", "xy")), 1, []int{0}}, {row(touch("f"), put(0, "", "xy")), 0, nil}, {row(touch("f"), put(0, "", "x"), mv("f", "b")), 2, []int{0}},
		{row(mk("a"), mk("b"), mk("c")), 2, nil}, {row(mk("a"), mk("b"), touch("a/b"), touch("c"), touch("a/c")), 4, []int{0}}, {row(mk("a"), mk("b"), mk("a/b"), touch("c"), touch("a/b/c")), 4, []int{0, 2}},
		// It needs what the one needs that it needs: the first one is of no path of its own.
		{row(touch("a"), mv("a", "f"), touch("b"), mv("b", "c"), put(0, "", "x"), rm("f")), 5, []int{0, 1, 4}}, {row(put(0, "", "x"), put(0, "", "y"), put(9, "", "z"), put(0, "xya", "b"), put(1, "c", "")), 4, []int{0, 1, 3}},
		{row(put(0, "a", ""), put(0, "bcdefg", ""), put(0, "h", "")), 2, []int{0, 1}}, {row(put(9, "a", ""), put(0, "bcdefghij", "b"), put(0, "", "h")), 2, []int{0, 1}}, {row(put(10, "a", ""), put(0, "bcdefghij", "b"), put(0, "", "h")), 2, []int{1}},
		// It goes on as what it became: as a hunk of g it needs what makes g, at 5 what lies there.
		{row(touch("g"), mk("a"), mv("g", "f"), put(0, "", "x")), 3, []int{0}}, {row(touch("f"), mv("g", "h"), touch("g"), mv("g", "f"), put(0, "", "x")), 4, []int{1, 2}}, {row(put(5, "", "a"), put(0, "", "xyz"), put(8, "a", "b")), 2, []int{0}}, {row(put(8, "", "a"), put(0, "", "xyz"), put(8, "a", "b")), 2, nil},
		// What could get ahead of the first of them alone is needed, and then nothing has changed: had the hunk at 5 become one at 8, it would touch the first one.
		{row(put(11, "y", "z"), put(2, "pqr", ""), put(5, "c", ""), put(2, "stu", "v")), 3, []int{1, 2}},
		// What gets ahead of one of them, and what it becomes ahead of the next one not.
		{row(put(4, "a", "b"), put(0, "", "xyz"), put(1, "yzcdefg", "")), 2, []int{0, 1}}, {row(touch("a"), mv("a", "b"), mk("a"), touch("a/c")), 3, []int{0, 1, 2}},
		{row(touch("f"), put(0, "", "x")), 2, nil}, {row(touch("f"), put(0, "", "x")), -1, nil}, {row(touch("f"), put(0, "", "x")), math.MaxInt, nil}, {row(touch("f"), put(0, "", "x")), math.MinInt, nil}, {nil, 0, nil}, {nil, -1, nil}, {row(), 0, nil}, {row(noKind), 0, nil},
		{row(mk("a"), mk("b"), noPath, mk("c")), 3, []int{0, 1, 2}}, {row(noKind, noPath, noForm), 2, []int{0, 1}}, {row(mk("a"), mk("b"), noKind), 2, []int{0, 1}}, {row(noKind, mk("a"), mk("b")), 2, []int{0}}, {row(noKind, mk("a"), mk("b")), 1, []int{0}}, {row(noKind, mk("a"), mk("b")), 0, nil},
	} {
		if got := seq.Needs(c.l, c.i); !slices.Equal(got, c.want) {
			t.Errorf("Needs of %s, %d = %v, want %v", told(c.l...), c.i, got, c.want)
		}
	}
}

// P10.3: which paths are touched: sorted byte by byte, each once; by what may not be none.
func TestTouched(t *testing.T) {
	for _, c := range []struct {
		l    []api.Prim
		want []string
	}{
		{nil, nil}, {row(), nil}, {row(mk("a")), []string{"a"}}, {row(mv("b", "a")), []string{"a", "b"}}, {row(mv("a", "b"), mv("b", "a"), mk("a"), rmdir("b")), []string{"a", "b"}},
		{row(touch("c"), rm("a"), hunk("b", 7, nil, letters("x")), mv("d", "aa"), mk("a/b"), touch("a-b"), touch("a.b")), []string{"a", "a-b", "a.b", "a/b", "aa", "b", "c", "d"}},
		{row(noKind, noPath, noForm, mv("a", "a"), mv("a", "B"), api.Prim{Kind: 1, Path: "a", To: "b"}, api.Prim{}), nil}, {row(noKind, mk("c"), noForm, touch("b"), mk("c")), []string{"b", "c"}},
	} {
		if got := seq.Touched(c.l); !slices.Equal(got, c.want) {
			t.Errorf("Touched of %s = %q, want %q", told(c.l...), got, c.want)
		}
	}
}

// againstWords looks whether all that is told of a row is as the words say.
func againstWords(t *testing.T, l []api.Prim) {
	t.Helper()
	for i := -1; i <= len(l); i++ {
		swapped, e := seq.Swap(l, i)
		if want, is := slowSwap(l, i); e != is || !prim.SameAll(swapped, want) {
			t.Fatalf("Swap of %s, %d = %s %d, want %s %d", told(l...), i, told(swapped...), e, told(want...), is)
		}
		front, e := seq.Front(l, i)
		if want, is := slowFront(l, i); e != is || !prim.SameAll(front, want) {
			t.Fatalf("Front of %s, %d = %s %d, want %s %d", told(l...), i, told(front...), e, told(want...), is)
		}
		needs := seq.Needs(l, i)
		if want := slowNeeds(l, i); !slices.Equal(needs, want) {
			t.Fatalf("Needs of %s, %d = %v, want %v", told(l...), i, needs, want)
		}
		if i >= 0 && i < len(l) && (e != api.OK) != (len(needs) > 0) {
			t.Fatalf("Front of %s, %d = %d, and Needs %v", told(l...), i, e, needs)
		}
	}
	for i := range len(l) + 1 {
		ahead, behind, e := seq.Rows(l[:i], l[i:])
		if b, a, is := slowRows(l[:i], l[i:]); e != is || !prim.SameAll(ahead, b) || !prim.SameAll(behind, a) {
			t.Fatalf("Rows of %s, %s = %s, %s %d, want %s, %s %d", told(l[:i]...), told(l[i:]...), told(ahead...), told(behind...), e, told(b...), told(a...), is)
		}
	}
	if len(l) > 0 {
		ahead, behind, e := seq.Past(l[0], l[1:]...)
		if want, p, is := slowPast(l[0], l[1:]); e != is || !prim.SameAll(ahead, want) || !prim.Same(behind, p) {
			t.Fatalf("Past of %s = %s, %s %d, want %s, %s %d", told(l...), told(ahead...), told(behind), e, told(want...), told(p), is)
		}
	}
}

// someSteps are steps of each kind, and some that may not be.
func someSteps() []api.Prim {
	return row(mk("a"), rmdir("a"), touch("f"), rm("f"), touch("a/b"), mv("f", "a/b"), mv("a/b", "f"), mv("f", "g"), hunk("g", 0, nil, letters("x")), hunk("a/b", 1, letters("y"), nil),
		put(0, "", "x"), put(0, "xy", "z"), put(1, "x", ""), put(3, "x", "yz"), put(5, "", "xyz"), put(math.MaxInt, "", "x"), noKind, noPath, noForm)
}

// P10.1, P10.2, P10.3, R1, R2: each row of at most three steps, that may be or not, against the words.
func TestEach(t *testing.T) {
	steps := someSteps()
	againstWords(t, nil)
	for _, p := range steps {
		againstWords(t, row(p))
		for _, q := range steps {
			againstWords(t, row(p, q))
			for _, r := range steps {
				againstWords(t, row(p, q, r))
			}
		}
	}
}

// pick answers a function that tells numbers below n, always the same ones, one behind the other.
func pick() func(n int) int {
	state := uint64(1)
	return func(n int) int {
		state = state*6364136223846793005 + 1442695040888963407
		return int(state >> 33 % uint64(n))
	}
}

// P10.1, P10.2, P10.3: many longer rows, of all kinds, and of hunks of one file alone, against the words.
func TestEachLonger(t *testing.T) {
	next := pick()
	steps := someSteps()
	for range 6000 {
		var mixed, hunks []api.Prim
		for range 3 + next(8) {
			mixed = append(mixed, steps[next(len(steps))])
			hunks = append(hunks, put(next(16), "xxxx"[next(5):], "yyyyz"[next(4):]))
		}
		againstWords(t, mixed)
		againstWords(t, hunks)
	}
}

// sameEnd looks whether a row that was told comes to the same tree.
func sameEnd(t *testing.T, what string, of, end tree.Tree, l, made []api.Prim) {
	t.Helper()
	got, e := prim.All(of, made...)
	if e != api.OK || !tree.Same(got, end) {
		t.Fatalf("%s: %s behind %s = %d: %s; want %s, as of %s", what, told(made...), shown(of.All()), e, shown(got.All()), shown(end.All()), told(l...))
	}
}

// turnsSame looks whether a row that comes to a tree does so, too, in each way in which it is told the other way round, and whether that is told back as it was; it counts how often it was.
func turnsSame(t *testing.T, of, end tree.Tree, l []api.Prim) (turned int) {
	t.Helper()
	for i := range l {
		if made, e := seq.Swap(l, i); e == api.OK {
			sameEnd(t, "Swap", of, end, l, made)
			if back, e := seq.Swap(made, i); e != api.OK || !prim.SameAll(back, l) {
				t.Fatalf("Swap of %s, %d, and again = %s %d", told(l...), i, told(back...), e)
			}
			turned++
		}
		needs := seq.Needs(l, i)
		made, e := seq.Front(l, i)
		if (e != api.OK) != (len(needs) > 0) {
			t.Fatalf("Front of %s, %d = %d, and Needs %v", told(l...), i, e, needs)
		}
		if e == api.OK {
			sameEnd(t, "Front", of, end, l, made)
		}
		sameEnd(t, "Needs", of, end, l, needsFirst(t, l, append(needs, i)))
		ahead, behind, e := seq.Rows(l[:i], l[i:])
		if e == api.OK {
			sameEnd(t, "Rows", of, end, l, slices.Concat(ahead, behind))
			if a, b, e := seq.Rows(ahead, behind); e != api.OK || !prim.SameAll(a, l[:i]) || !prim.SameAll(b, l[i:]) {
				t.Fatalf("Rows of %s, %d, and again = %s, %s %d", told(l...), i, told(a...), told(b...), e)
			}
		}
	}
	if len(l) > 0 {
		if ahead, behind, e := seq.Past(l[0], l[1:]...); e == api.OK {
			sameEnd(t, "Past", of, end, l, append(ahead, behind))
		}
	}
	return turned
}

// needsFirst tells the row that begins with these steps of it, which hang on no other ones.
func needsFirst(t *testing.T, l []api.Prim, places []int) []api.Prim {
	t.Helper()
	made := l
	for k, place := range places {
		ahead, behind, e := seq.Rows(made[k:place], made[place:place+1])
		if e != api.OK {
			t.Fatalf("%v of %s need another one: %d can't get ahead: %d", places, told(l...), place, e)
		}
		made = slices.Concat(made[:k], ahead, behind, made[place+1:])
	}
	return made
}

// rows tells what all rows of at most so many of these steps come to that can be done to a tree, and calls look of each.
func rows(of tree.Tree, all, done []api.Prim, most int, look func(end tree.Tree, l []api.Prim)) {
	look(of, done)
	if most == 0 {
		return
	}
	for _, p := range all {
		if next, e := prim.Apply(of, p); e == api.OK {
			rows(next, all, append(slices.Clone(done), p), most-1, look)
		}
	}
}

// P10.4: rows of steps of each kind, done to small trees.
func TestTheSame(t *testing.T) {
	names := []string{"a", "b", "d/a"}
	all := row(mk("d"), rmdir("d"))
	for _, p := range names {
		all = append(all, touch(p), rm(p), hunk(p, 0, nil, letters("x")), hunk(p, 0, letters("x"), letters("y")), hunk(p, 2, letters("y"), nil))
		for _, to := range names {
			if to != p {
				all = append(all, mv(p, to))
			}
		}
	}
	turned := 0
	for _, l := range [][]api.File{nil, {dir("d")}, {file("a")}, {file("a", "x", "z", "y"), file("b", "y")}, {dir("d"), file("d/a", "x")}} {
		of := must(t, l...)
		rows(of, all, nil, 4, func(end tree.Tree, l []api.Prim) { turned += turnsSame(t, of, end, l) })
	}
	if turned < 5000 {
		t.Errorf("%d neighbours changed places", turned)
	}
}

// P10.4: many rows of hunks that can be done to one file, whose lines differ.
func TestTheSameHunks(t *testing.T) {
	next := pick()
	of := must(t, file("f", letters("abcdefghijklmnopqrst")...))
	turned := 0
	for range 3000 {
		var l []api.Prim
		end := of
		for range 2 + next(7) {
			f, _ := end.Get("f")
			at := next(len(f.Lines) + 1)
			goes := min(next(4), len(f.Lines)-at)
			p := hunk("f", at, f.Lines[at:at+goes], letters("UVWXYZ"[next(7):]))
			if done, e := prim.Apply(end, p); e == api.OK {
				l, end = append(l, p), done
			}
		}
		turned += turnsSame(t, of, end, l)
	}
	if turned < 3000 {
		t.Errorf("%d neighbours changed places", turned)
	}
}

// R1: long rows.
func TestLong(t *testing.T) {
	const n = 2000
	var dirs, touching, rising []api.Prim
	for i := range n {
		dirs = append(dirs, mk("p"+strconv.Itoa(i)))
		touching = append(touching, put(i, "", "x"))
		rising = append(rising, put(3*i, "", "x"))
	}
	front, e := seq.Front(rising, n-1)
	if e != api.OK || !prim.SameAll(front[1:], rising[:n-1]) || !prim.Same(front[0], put(2*(n-1), "", "x")) {
		t.Errorf("Front = %s %d", told(front...), e)
	}
	if ahead, behind, e := seq.Past(touching[0], dirs...); e != api.OK || !prim.SameAll(ahead, dirs) || !prim.Same(behind, touching[0]) {
		t.Errorf("Past = %s, %s %d", told(ahead...), told(behind), e)
	}
	if ahead, behind, e := seq.Rows(dirs[:200], rising[:200]); e != api.OK || !prim.SameAll(ahead, rising[:200]) || !prim.SameAll(behind, dirs[:200]) {
		t.Errorf("Rows = %s, %s %d", told(ahead...), told(behind...), e)
	}
	if got := seq.Needs(rising, n-1); len(got) != 0 {
		t.Errorf("Needs %d", len(got))
	}
	got := seq.Needs(touching, n-1)
	if len(got) != n-1 || !slices.IsSorted(got) || got[0] != 0 || got[n-2] != n-2 {
		t.Errorf("Needs %d", len(got))
	}
}

// spoil changes all that a list of lines has, and its spare room, to a word.
func spoil(l []string, word string) {
	for i := range l[:cap(l)] {
		l[:cap(l)][i] = word
	}
}

// answered tells all rows that are answered of a row, cut at a place.
func answered(l []api.Prim, i int) [][]api.Prim {
	swapped, _ := seq.Swap(l, i-1)
	front, _ := seq.Front(l, i)
	first, _ := seq.Front(l, 0)
	ahead, behind, _ := seq.Rows(l[:i], l[i:])
	_, behindNone, _ := seq.Rows(l, nil)
	aheadOfNone, _, _ := seq.Rows(nil, l)
	past, p, _ := seq.Past(l[0], l[1:]...)
	_, alone, _ := seq.Past(l[0])
	return [][]api.Prim{swapped, front, first, ahead, behind, behindNone, aheadOfNone, past, row(p, alone)}
}

// sameRows tells whether rows are the same, each one.
func sameRows(a, b [][]api.Prim) bool { return slices.EqualFunc(a, b, prim.SameAll) }

// rowsToSpoil are rows of steps whose lines lie in one list, those of several ones over one another.
func rowsToSpoil() []func(l []string) []api.Prim {
	return []func(l []string) []api.Prim{
		func(l []string) []api.Prim {
			return row(hunk("f", 0, l[:1], l[:2]), hunk("f", 9, l[:1], l[2:3]), hunk("g", 3, l[:2], l[:2]), mv("f", "h"))
		},
		func(l []string) []api.Prim {
			return row(mv("g", "f"), hunk("f", 9, l[:1], l[:0]), mk("a"), hunk("f", 3, l[:0], l[:2]))
		},
		func(l []string) []api.Prim {
			return row(hunk("f", 0, l[:1], l[:2]), hunk("f", 1, l[:1], l[2:3]), hunk("g", 3, l[:2], l[:2]))
		},
		func(l []string) []api.Prim {
			return row(hunk("f", 0, l[:2], l[:1]), hunk("f", -1, l[:1], l[2:3]), api.Prim{Kind: 9, Old: l[:1], New: l[:3]})
		},
	}
}

// R3: what is handed in stays as it is, its spare room too, and may be changed behind the call.
func TestHandedIn(t *testing.T) {
	begin := []string{"x", "y", "z", "spare", "room"}
	for _, c := range rowsToSpoil() {
		for i := 1; i < 3; i++ {
			l := slices.Clone(begin)
			spare := append(c(l), touch("spare"))
			given, same := spare[:len(spare)-1], c(slices.Clone(begin))
			want := answered(same, i)
			got := answered(given, i)
			needs, paths := seq.Needs(given, i), seq.Touched(given)
			if !slices.Equal(l, begin) || !prim.SameAll(given, same) || !prim.Same(spare[len(spare)-1], touch("spare")) {
				t.Errorf("what was handed in is %q, %s", l, told(spare...))
			}
			spoil(l, "changed")
			clear(spare)
			if !sameRows(got, want) || !slices.Equal(needs, seq.Needs(same, i)) || !slices.Equal(paths, seq.Touched(same)) {
				t.Errorf("what was answered of %s became %v, %v, %q", told(same...), got, needs, paths)
			}
		}
	}
}

// R3: what is answered may be changed: it shares memory in nothing with what was handed in, and no two lists of it share any.
func TestAnswered(t *testing.T) {
	begin := []string{"x", "y", "z", "spare", "room"}
	for _, c := range rowsToSpoil() {
		for i := 1; i < 3; i++ {
			l := slices.Clone(begin)
			given, same := c(l), c(slices.Clone(begin))
			want := answered(same, i)
			got := answered(given, i)
			for k, made := range got {
				for n, p := range made {
					spoil(p.New, "answered")
					if !slices.Equal(p.Old, want[k][n].Old) {
						t.Errorf("Old became %q, with New", p.Old)
					}
					spoil(p.Old, "answered")
					if !prim.SameAll(made[n+1:], want[k][n+1:]) {
						t.Errorf("%s became %s, with %d", told(want[k]...), told(made...), n)
					}
				}
				clear(made[:cap(made)])
				if !sameRows(got[k+1:], want[k+1:]) || !slices.Equal(l, begin) || !prim.SameAll(given, same) {
					t.Fatalf("what was handed in became %s, with %s", told(given...), told(want[k]...))
				}
			}
		}
	}
}
