package fuse_test

import (
	"math"
	"math/big"
	"slices"
	"strconv"
	"strings"
	"testing"

	"rafter/api"
	"rafter/commute"
	"rafter/fuse"
	"rafter/prim"
	"rafter/tree"
)

// few tells lines in few words.
func few(l []string) string {
	if len(l) > 8 {
		return strconv.Itoa(len(l)) + " lines"
	}
	return strconv.Quote(strings.Join(l, "|"))
}

// told tells steps in few words.
func told(l ...api.Prim) string {
	var s strings.Builder
	for _, p := range l[:min(len(l), 8)] {
		s.WriteString("{" + strconv.Itoa(p.Kind) + " " + strconv.Quote(p.Path) + " " + strconv.Quote(p.To) + " " + strconv.Itoa(p.At) + " " + few(p.Old) + " " + few(p.New) + "}")
	}
	return strconv.Itoa(len(l)) + ":" + s.String()
}

// shown tells files in few words.
func shown(l []api.File) string {
	var s strings.Builder
	for _, f := range l[:min(len(l), 8)] {
		s.WriteString(" " + strconv.Quote(f.Path) + " " + strconv.FormatBool(f.Dir) + " " + few(f.Lines))
	}
	return strconv.Itoa(len(l)) + ":" + s.String()
}

// must makes a tree of files that may be one.
func must(t *testing.T, l ...api.File) tree.Tree {
	t.Helper()
	made, e := tree.Of(l...)
	if e != api.OK {
		t.Fatalf("Of %s = %d", shown(l), e)
	}
	return made
}

// dir is a directory, file a file.
func dir(p string) api.File               { return api.File{Path: p, Dir: true} }
func file(p string, l ...string) api.File { return api.File{Path: p, Lines: l} }

// mk, rmdir, touch, rm, mv and hunk are steps, one of each kind.
func mk(p string) api.Prim    { return api.Prim{Kind: 1, Path: p} }
func rmdir(p string) api.Prim { return api.Prim{Kind: 2, Path: p} }
func touch(p string) api.Prim { return api.Prim{Kind: 3, Path: p} }
func rm(p string) api.Prim    { return api.Prim{Kind: 4, Path: p} }
func mv(p, to string) api.Prim {
	return api.Prim{Kind: 5, Path: p, To: to}
}
func hunk(p string, at int, old, new []string) api.Prim {
	return api.Prim{Kind: 6, Path: p, At: at, Old: old, New: new}
}

// put is a hunk of the file f, of lines of one letter each.
func put(at int, old, new string) api.Prim { return hunk("f", at, letters(old), letters(new)) }

// letters are lines of one letter each.
func letters(s string) []string {
	if s == "" {
		return nil
	}
	return strings.Split(s, "")
}

// many are n lines, each of which says the same.
func many(n int, line string) []string { return slices.Repeat([]string{line}, n) }

// wrongSteps are steps that may not be, each by an error of prim.Check, in other ways.
func wrongSteps() []api.Prim {
	x := []string{"x"}
	return []api.Prim{
		{}, {Kind: 7, Path: "a"}, {Kind: -1, Path: "a"}, {Kind: math.MaxInt, Path: "f", New: x}, {Kind: math.MinInt, Path: "f", Old: x},
		{Kind: 1, Path: "a", To: "b"}, {Kind: 2, Path: "a", At: 1}, {Kind: 3, Path: "a", Old: x}, {Kind: 5, Path: "a", To: "b", New: x}, {Kind: 6, Path: "f", To: "b", New: x}, {Kind: 6, Path: "f", To: "f", Old: x},
		mk(""), rmdir("/"), touch("A"), rm("a/"), mk(strings.Repeat("a/", 16) + "a"), mv("a", "a"), mv("a", ""), mv("", "a"), mv("a", "B"), mv("A", "b"), hunk("", 0, nil, x), hunk("F", 0, nil, x),
		put(0, "", ""), hunk("f", 0, []string{}, []string{}), put(-1, "", "x"), put(math.MinInt, "x", "x"), put(-1, "xx", "x"), hunk("f", 0, nil, []string{"\n"}), hunk("f", 0, many(2001, ""), nil), hunk("f", 0, x, many(2001, "x")), hunk("f", 0, x, []string{strings.Repeat("x", 201)}),
	}
}

// rightSteps are steps that may be, of each kind.
func rightSteps() []api.Prim {
	paths := []string{"a", "b", "f", "a/a", "aa"}
	var l []api.Prim
	for _, p := range paths {
		l = append(l, mk(p), rmdir(p), touch(p), rm(p), hunk(p, 0, letters("x"), nil), hunk(p, 0, nil, letters("x")), hunk(p, 1, letters("xy"), letters("yx")), hunk(p, 3, letters("y"), letters("y")))
		for _, to := range paths {
			if to != p {
				l = append(l, mv(p, to))
			}
		}
	}
	return append(l, api.Prim{Kind: 1, Path: "a", Old: []string{}, New: []string{}}, api.Prim{Kind: 5, Path: "a", To: "b", Old: []string{}, New: []string{}})
}

// words are all rows of at most so many letters x and y.
func words(most int) []string {
	l := []string{""}
	for from, n := 0, 0; n < most; n++ {
		to := len(l)
		for _, s := range l[from:to] {
			l = append(l, s+"x", s+"y")
		}
		from = to
	}
	return l
}

// puts are all hunks at these places, of at most so many lines x and y that go, and come.
func puts(most int, places ...int) []api.Prim {
	var l []api.Prim
	for _, at := range places {
		for _, old := range words(most) {
			for _, new := range words(most) {
				if old+new != "" {
					l = append(l, put(at, old, new))
				}
			}
		}
	}
	return l
}

// whole is a sum of whole numbers, however great.
func whole(l ...int) *big.Int {
	sum := new(big.Int)
	for _, n := range l {
		sum.Add(sum, big.NewInt(int64(n)))
	}
	return sum
}

// slowRight tells whether two steps are hunks of one file that may be.
func slowRight(p, q api.Prim) bool {
	return p.Kind == 6 && q.Kind == 6 && p.Path == q.Path && prim.Check(p) == api.OK && prim.Check(q) == api.OK
}

// slowTouch does as the words of P9.1 say.
func slowTouch(p, q api.Prim) bool {
	return slowRight(p, q) && whole(q.At).Cmp(whole(p.At, len(p.New))) <= 0 && whole(q.At, len(q.Old)).Cmp(whole(p.At)) >= 0
}

// slowParts tells those lines that stand ahead of others, and behind them, one by one, and the places of those that lie over them.
func slowParts(at int, l []string, other int, others []string) (ahead, behind []string, over []int) {
	for i, line := range l {
		switch {
		case whole(at, i).Cmp(whole(other)) < 0:
			ahead = append(ahead, line)
		case whole(at, i).Cmp(whole(other, len(others))) >= 0:
			behind = append(behind, line)
		default:
			over = append(over, i)
		}
	}
	return ahead, behind, over
}

// slowHunks does as the words of P9.2 say.
func slowHunks(p, q api.Prim) (api.Prim, bool) {
	if !slowTouch(p, q) {
		return api.Prim{}, false
	}
	oldAhead, oldBehind, over := slowParts(q.At, q.Old, p.At, p.New)
	for _, i := range over {
		if at := q.At - p.At + i; p.New[at] != q.Old[i] {
			return api.Prim{}, false
		}
	}
	newAhead, newBehind, _ := slowParts(p.At, p.New, q.At, q.Old)
	return hunk(p.Path, min(p.At, q.At), slices.Concat(oldAhead, p.Old, oldBehind), slices.Concat(newAhead, q.New, newBehind)), true
}

// slowPair does as the words of P9.3 say.
func slowPair(p, q api.Prim) ([]api.Prim, bool) {
	if prim.Check(p) != api.OK || prim.Check(q) != api.OK {
		return nil, false
	}
	if h, ok := slowHunks(p, q); ok {
		if slices.Equal(h.Old, h.New) {
			return nil, true
		}
		return []api.Prim{h}, true
	}
	switch [2]int{p.Kind, q.Kind} {
	case [2]int{1, 2}, [2]int{3, 4}:
		return nil, p.Path == q.Path
	case [2]int{5, 5}:
		if p.To == q.Path && p.Path != q.To {
			return []api.Prim{mv(p.Path, q.To)}, true
		}
		return nil, p.To == q.Path
	}
	return nil, false
}

// slowJoin puts a step behind those that are left, as the words of P9.4 say.
func slowJoin(left []api.Prim, p api.Prim) []api.Prim {
	if len(left) == 0 {
		return []api.Prim{p}
	}
	ahead, last := left[:len(left)-1], left[len(left)-1]
	made, ok := slowPair(last, p)
	switch {
	case !ok:
		return append(slices.Clone(left), p)
	case len(made) == 0:
		return ahead
	}
	return slowJoin(ahead, made[0])
}

// slowAll does as the words of P9.4 say.
func slowAll(l ...api.Prim) []api.Prim {
	var left []api.Prim
	for _, p := range l {
		left = slowJoin(left, p)
	}
	return left
}

// P9.1: hunks of one file that touch, and that do not any more, at the edges.
func TestTouch(t *testing.T) {
	last := math.MaxInt
	for _, c := range []struct {
		p, q api.Prim
		want bool
	}{
		{put(2, "a", "bc"), put(1, "zb", "w"), true}, {put(2, "a", "b"), put(2, "b", "c"), true}, {put(2, "a", "b"), put(2, "x", ""), true},
		{put(5, "a", "bc"), put(6, "c", ""), true}, {put(5, "a", "bc"), put(7, "d", ""), true}, {put(5, "a", "bc"), put(7, "", "d"), true}, {put(5, "a", "bc"), put(8, "d", ""), false}, {put(5, "a", "bc"), put(8, "", "d"), false},
		{put(5, "abc", ""), put(5, "d", ""), true}, {put(5, "abc", ""), put(6, "d", ""), false}, {put(5, "abc", "d"), put(7, "e", ""), false},
		{put(5, "a", "b"), put(4, "x", ""), true}, {put(5, "a", "b"), put(4, "", "xyz"), false}, {put(5, "a", "b"), put(3, "xy", ""), true}, {put(5, "a", "b"), put(3, "x", "yz"), false}, {put(5, "a", "b"), put(0, "vwxyz", ""), true}, {put(5, "a", "b"), put(0, "wxyz", "vwxyz"), false},
		{put(0, "a", ""), put(0, "", "a"), true}, {put(0, "", "a"), put(0, "", "a"), true}, {put(1, "", "a"), put(0, "", "a"), false}, {put(0, "a", ""), put(1, "", "a"), false},
		{hunk("f", 0, nil, many(2000, "x")), put(2000, "x", ""), true}, {hunk("f", 0, nil, many(2000, "x")), put(2001, "x", ""), false}, {put(2000, "x", ""), hunk("f", 0, many(2000, "x"), nil), true}, {put(2001, "x", ""), hunk("f", 0, many(2000, "x"), nil), false},
		{put(last, "a", "bc"), put(last, "b", ""), true}, {put(last-1, "a", "bc"), put(last, "c", ""), true}, {put(last-2, "a", "bc"), put(last, "d", ""), true}, {put(last-3, "a", "bc"), put(last, "d", ""), false},
		{put(last, "a", "b"), put(last-2, "xy", ""), true}, {put(last, "a", "b"), put(last-3, "xy", ""), false}, {put(last, "a", "b"), put(last-1, "xyz", ""), true}, {put(0, "a", "b"), put(last, "a", "b"), false}, {put(last, "a", "b"), put(0, "a", "b"), false},
		{put(0, "a", "b"), hunk("g", 0, letters("b"), nil), false}, {hunk("f/f", 0, nil, letters("b")), put(0, "b", ""), false}, {touch("f"), put(0, "", "a"), false}, {put(0, "a", ""), rm("f"), false}, {mv("g", "f"), put(0, "a", ""), false}, {touch("f"), rm("f"), false},
	} {
		if got := fuse.Touch(c.p, c.q); got != c.want {
			t.Errorf("Touch of %s = %v", told(c.p, c.q), got)
		}
	}
}

// places are some at the beginning, and some at the edge of all ints.
func places() []int {
	return []int{0, 1, 2, 3, 4, 5, 1999, 2000, 2001, math.MaxInt - 2001, math.MaxInt - 2000, math.MaxInt - 4, math.MaxInt - 3, math.MaxInt - 2, math.MaxInt - 1, math.MaxInt}
}

// P9.1, R5: each two of hunks at many places, of few and many lines, against the words; just those touch that do not change places.
func TestEachTouch(t *testing.T) {
	var l []api.Prim
	for _, at := range places() {
		for i := 1; i < 16; i++ {
			l = append(l, hunk("f", at, many(i/4, "x"), many(i%4, "x")))
		}
		l = append(l, hunk("f", at, many(2000, "x"), many(1, "x")), hunk("f", at, nil, many(2000, "x")))
	}
	for _, p := range l {
		for _, q := range l {
			got := fuse.Touch(p, q)
			if got != slowTouch(p, q) || got == commute.Can(p, q) {
				t.Errorf("Touch of %s = %v", told(p, q), got)
			}
		}
	}
}

// P9.1, P9.2: what may not be, or are no hunks of one file, does not touch, and is not made one.
func TestWrong(t *testing.T) {
	all := append(rightSteps(), wrongSteps()...)
	for _, p := range all {
		for _, q := range all {
			if slowRight(p, q) {
				continue
			}
			if fuse.Touch(p, q) {
				t.Errorf("%s touch", told(p, q))
			}
			if h, ok := fuse.Hunks(p, q); ok || !prim.Same(h, api.Prim{}) {
				t.Errorf("Hunks of %s = %s %v", told(p, q), told(h), ok)
			}
		}
	}
}

// P9.2: what hunks become, that are known: the second one ahead of the first one's New, behind it, within it, around it, and half over it.
func TestHunks(t *testing.T) {
	last := math.MaxInt
	for _, c := range []struct{ p, q, want api.Prim }{
		{put(2, "a", "bc"), put(1, "zb", "w"), put(1, "za", "wc")},
		{put(0, "a", "b"), put(0, "b", "c"), put(0, "a", "c")},
		{put(5, "a", "bc"), put(7, "d", "e"), put(5, "ad", "bce")},
		{put(5, "a", "bc"), put(7, "", "e"), put(5, "a", "bce")},
		{put(5, "a", "bc"), put(7, "d", ""), put(5, "ad", "bc")},
		{put(5, "a", "bc"), put(3, "yz", "e"), put(3, "yza", "ebc")},
		{put(5, "a", "bc"), put(5, "", "e"), put(5, "a", "ebc")},
		{put(5, "a", "bc"), put(6, "", "e"), put(5, "a", "bec")},
		{put(5, "a", "bcd"), put(6, "c", "xyz"), put(5, "a", "bxyzd")},
		{put(5, "a", "bcd"), put(6, "cdef", "x"), put(5, "aef", "bx")},
		{put(5, "ag", "bcd"), put(3, "yzbc", "x"), put(3, "yzag", "xd")},
		{put(5, "ag", "b"), put(3, "yzbc", "x"), put(3, "yzagc", "x")},
		{put(5, "ag", ""), put(3, "yzbc", "x"), put(3, "yzagbc", "x")},
		{put(5, "ag", ""), put(5, "bc", "x"), put(5, "agbc", "x")},
		{put(5, "ag", ""), put(3, "yz", "x"), put(3, "yzag", "x")},
		{put(5, "a", ""), put(5, "", "b"), put(5, "a", "b")},
		{put(5, "", "a"), put(5, "a", "b"), put(5, "", "b")},
		{put(5, "", "a"), put(5, "a", ""), put(5, "", "")},
		{put(5, "a", ""), put(5, "", "a"), put(5, "a", "a")},
		{put(5, "a", "b"), put(5, "b", "a"), put(5, "a", "a")},
		{put(5, "", "ab"), put(5, "a", ""), put(5, "", "b")},
		{put(5, "", "ab"), put(4, "xaby", "xy"), put(4, "xy", "xy")},
		{put(last, "a", "bc"), put(last, "bcd", "e"), put(last, "ad", "e")},
		{put(last-1, "a", "bcd"), put(last, "cde", "x"), put(last-1, "ae", "bx")},
		{put(last, "a", "bcd"), put(last-2, "yzbc", "x"), put(last-2, "yza", "xd")},
	} {
		got, ok := fuse.Hunks(c.p, c.q)
		if !ok || !prim.Same(got, c.want) {
			t.Errorf("Hunks of %s = %s %v, want %s", told(c.p, c.q), told(got), ok, told(c.want))
		}
	}
}

// P9.2: what does not go together, or does not touch.
func TestHunksNot(t *testing.T) {
	for _, c := range []struct{ p, q api.Prim }{
		{put(2, "a", "bc"), put(2, "x", "")}, {put(2, "a", "bc"), put(3, "b", "")}, {put(2, "a", "bc"), put(2, "bd", "")}, {put(2, "a", "bc"), put(1, "bc", "")}, {put(2, "a", "bc"), put(1, "zc", "w")}, {put(2, "b", "a"), put(2, "b", "c")}, {put(2, "a", "bc"), put(1, "zbd", "w")}, {put(2, "a", "bc"), put(3, "d", "c")}, {put(0, "", "aab"), put(0, "aba", "")},
		{put(2, "a", "bc"), put(5, "x", "")}, {put(2, "a", "bc"), put(0, "x", "")}, {put(math.MaxInt, "a", "b"), put(0, "b", "")}, {put(0, "a", "b"), put(math.MaxInt, "b", "")},
	} {
		if h, ok := fuse.Hunks(c.p, c.q); ok || !prim.Same(h, api.Prim{}) {
			t.Errorf("Hunks of %s = %s %v", told(c.p, c.q), told(h), ok)
		}
		if l, ok := fuse.Pair(c.p, c.q); ok || len(l) != 0 {
			t.Errorf("Pair of %s = %s %v", told(c.p, c.q), told(l...), ok)
		}
	}
}

// P9.2, R5: each two of many hunks against the words.
func TestEachHunks(t *testing.T) {
	last := math.MaxInt
	few := puts(2, 0, 1, 2, 3, 4, last-1, last)
	for _, p := range few {
		for _, q := range few {
			got, ok := fuse.Hunks(p, q)
			if want, is := slowHunks(p, q); ok != is || !prim.Same(got, want) {
				t.Fatalf("Hunks of %s = %s %v, want %s %v", told(p, q), told(got), ok, told(want), is)
			}
		}
	}
	long := []api.Prim{hunk("f", 2, letters("abc"), letters("xyxyx")), hunk("f", 4, letters("a"), letters("yxyyx")), hunk("f", 0, nil, letters("xxyxy"))}
	for _, p := range long {
		for _, q := range puts(4, 0, 1, 2, 3, 4, 5, 6, 7, 8, 9) {
			got, ok := fuse.Hunks(p, q)
			if want, is := slowHunks(p, q); ok != is || !prim.Same(got, want) {
				t.Fatalf("Hunks of %s = %s %v, want %s %v", told(p, q), told(got), ok, told(want), is)
			}
		}
	}
}

// P9.2, P9.3, P9.4: hunks of as many lines as may be; what they become may have more than a step that may be, and then becomes one with nothing.
func TestHunksFull(t *testing.T) {
	p, q := hunk("f", 0, many(2000, "a"), many(2000, "b")), hunk("f", 1000, slices.Concat(many(1000, "b"), many(1000, "c")), many(2000, "d"))
	want := hunk("f", 0, slices.Concat(many(2000, "a"), many(1000, "c")), slices.Concat(many(1000, "b"), many(2000, "d")))
	if h, ok := fuse.Hunks(p, q); !ok || !prim.Same(h, want) {
		t.Errorf("Hunks = %s %v", told(h), ok)
	}
	if l, ok := fuse.Pair(p, q); !ok || !prim.SameAll(l, []api.Prim{want}) {
		t.Errorf("Pair = %s %v", told(l...), ok)
	}
	r := put(0, "b", "")
	if l, ok := fuse.Pair(want, r); ok || len(l) != 0 {
		t.Errorf("Pair of %s = %s %v", told(want, r), told(l...), ok)
	}
	if l := fuse.All(p, q, r); !prim.SameAll(l, []api.Prim{want, r}) {
		t.Errorf("All = %s", told(l...))
	}
	full := hunk("f", 0, nil, many(2000, "b"))
	if l, ok := fuse.Pair(full, prim.Invert(full)); !ok || len(l) != 0 {
		t.Errorf("Pair = %s %v", told(l...), ok)
	}
}

// P9.3: what two steps become, that are known.
func TestPair(t *testing.T) {
	for _, c := range []struct {
		p, q api.Prim
		want []api.Prim
	}{
		{put(0, "a", "b"), put(0, "b", "c"), []api.Prim{put(0, "a", "c")}}, {put(2, "a", "bc"), put(1, "zb", "w"), []api.Prim{put(1, "za", "wc")}},
		{put(5, "", "a"), put(5, "a", ""), nil}, {put(5, "a", ""), put(5, "", "a"), nil}, {put(5, "a", "b"), put(5, "b", "a"), nil}, {put(5, "", "ab"), put(4, "xaby", "xy"), nil}, {put(5, "a", "a"), put(6, "b", "b"), nil},
		{put(5, "ab", "ba"), put(6, "a", "b"), []api.Prim{put(5, "ab", "bb")}},
		{mk("a"), rmdir("a"), nil}, {touch("a/b"), rm("a/b"), nil}, {mv("a", "b"), mv("b", "a"), nil},
		{mv("a", "b"), mv("b", "c"), []api.Prim{mv("a", "c")}}, {mv("a", "b/c"), mv("b/c", "b"), []api.Prim{mv("a", "b")}}, {mv("a/b", "c"), mv("c", "a"), []api.Prim{mv("a/b", "a")}},
		{api.Prim{Kind: 1, Path: "a", Old: []string{}}, api.Prim{Kind: 2, Path: "a", New: []string{}}, nil},
	} {
		if got, ok := fuse.Pair(c.p, c.q); !ok || !prim.SameAll(got, c.want) {
			t.Errorf("Pair of %s = %s %v, want %s", told(c.p, c.q), told(got...), ok, told(c.want...))
		}
	}
}

// P9.3: what does not become one: no others than the chapter tells, what went and comes again neither.
func TestPairNot(t *testing.T) {
	for _, c := range []struct{ p, q api.Prim }{
		{rmdir("a"), mk("a")}, {rm("a"), touch("a")}, {mk("a"), rm("a")}, {touch("a"), rmdir("a")}, {mk("a"), mk("a")}, {rm("a"), rm("a")}, {mk("a"), rmdir("b")}, {touch("a"), rm("a/b")},
		{mv("a", "b"), mv("a", "b")}, {mv("a", "b"), mv("c", "a")}, {mv("a", "b"), mv("c", "d")}, {mv("b", "c"), mv("a", "b")}, {mv("a", "b"), mv("a", "c")}, {mv("a", "b"), mv("c", "b")},
		{touch("a"), mv("a", "b")}, {mv("a", "b"), rm("b")}, {touch("f"), put(0, "", "a")}, {put(0, "a", ""), rm("f")}, {put(0, "a", "b"), mv("f", "g")}, {mv("g", "f"), put(0, "a", "b")}, {put(0, "", "a"), hunk("g", 0, letters("a"), nil)},
		{mv("a", "a"), mv("a", "b")}, {mv("a", "b"), mv("b", "b")}, {mv("a", ""), mv("", "a")}, {mk("A"), rmdir("A")}, {touch(""), rm("")}, {api.Prim{}, api.Prim{}}, {put(0, "", ""), put(0, "", "a")}, {put(0, "", "a"), put(0, "", "")}, {put(-1, "", "a"), put(-1, "a", "")},
		{api.Prim{Kind: 1, Path: "a", At: 1}, rmdir("a")}, {mk("a"), api.Prim{Kind: 2, Path: "a", At: 1}}, {mv("a", "b"), api.Prim{Kind: 5, Path: "b", To: "c", Old: []string{"x"}}},
	} {
		if got, ok := fuse.Pair(c.p, c.q); ok || len(got) != 0 {
			t.Errorf("Pair of %s = %s %v", told(c.p, c.q), told(got...), ok)
		}
	}
}

// P9.3, R1, R2: each two of many steps, that may be or not, against the words.
func TestEachPair(t *testing.T) {
	all := slices.Concat(rightSteps(), wrongSteps(), puts(1, 0, 1, math.MaxInt))
	for _, p := range all {
		for _, q := range all {
			got, ok := fuse.Pair(p, q)
			if want, is := slowPair(p, q); ok != is || !prim.SameAll(got, want) {
				t.Errorf("Pair of %s = %s %v, want %s %v", told(p, q), told(got...), ok, told(want...), is)
			}
		}
	}
}

// P9.4: what rows become, that are known.
func TestAll(t *testing.T) {
	wrong := put(-1, "", "a")
	for _, c := range []struct{ l, want []api.Prim }{
		{nil, nil}, {[]api.Prim{mk("a")}, []api.Prim{mk("a")}}, {[]api.Prim{mk("a"), rmdir("a")}, nil},
		{[]api.Prim{mk("a"), touch("a/b"), rm("a/b"), rmdir("a")}, nil},
		{[]api.Prim{mk("a"), touch("a/b"), rm("a/b"), touch("a/b")}, []api.Prim{mk("a"), touch("a/b")}},
		{[]api.Prim{mk("a"), mk("b"), rmdir("a")}, []api.Prim{mk("a"), mk("b"), rmdir("a")}},
		{[]api.Prim{mv("a", "b"), mv("b", "c"), mv("c", "d")}, []api.Prim{mv("a", "d")}},
		{[]api.Prim{mk("x"), mv("a", "b"), mv("b", "c"), mv("c", "a"), rmdir("x")}, nil},
		{[]api.Prim{mv("a", "b"), touch("c"), rm("c"), mv("b", "d")}, []api.Prim{mv("a", "d")}},
		// What two become touches the one ahead of it, which none of both did.
		{[]api.Prim{put(5, "", "y"), put(0, "abc", ""), put(0, "de", "")}, []api.Prim{put(0, "abcde", "y")}},
		{[]api.Prim{put(6, "", "y"), put(0, "abc", ""), put(0, "de", "")}, []api.Prim{put(6, "", "y"), put(0, "abcde", "")}},
		{[]api.Prim{put(0, "", "a"), put(3, "c", ""), put(1, "bd", "")}, []api.Prim{put(0, "bdc", "a")}},
		// The last one goes together with two of those ahead, one behind the other, and then with the next one not.
		{[]api.Prim{put(0, "", "a"), put(9, "", "y"), put(5, "cd", ""), put(3, "", "b"), put(1, "xxbxxxxxz", "e")}, []api.Prim{put(0, "", "a"), put(9, "", "y"), put(1, "xxxxcdxxxz", "e")}},
		{[]api.Prim{put(0, "", "a"), put(9, "", "y"), put(5, "cd", ""), put(3, "", "b"), put(1, "xxbxxxxyz", "e")}, []api.Prim{put(0, "xxxxcdxxz", "ae")}},
		{[]api.Prim{put(0, "a", "b"), put(0, "b", "a"), put(5, "", "x")}, []api.Prim{put(5, "", "x")}},
		{[]api.Prim{put(0, "a", "a")}, []api.Prim{put(0, "a", "a")}},
		{[]api.Prim{put(0, "a", "a"), put(1, "b", "b")}, nil},
		{[]api.Prim{put(0, "", "a"), put(5, "", "b"), put(0, "a", "")}, []api.Prim{put(0, "", "a"), put(5, "", "b"), put(0, "a", "")}},
		{[]api.Prim{touch("f"), put(0, "", "a"), put(1, "", "b"), put(0, "ab", ""), rm("f")}, nil},
		{[]api.Prim{rm("a"), touch("a")}, []api.Prim{rm("a"), touch("a")}},
		{[]api.Prim{rm("a"), touch("a"), rm("a")}, []api.Prim{rm("a")}},
		{[]api.Prim{wrong}, []api.Prim{wrong}}, {[]api.Prim{wrong, wrong, {}}, []api.Prim{wrong, wrong, {}}}, {[]api.Prim{mk("a"), wrong, rmdir("a")}, []api.Prim{mk("a"), wrong, rmdir("a")}},
		{[]api.Prim{wrong, mk("a"), rmdir("a"), mv("a", "a")}, []api.Prim{wrong, mv("a", "a")}},
	} {
		if got := fuse.All(c.l...); !prim.SameAll(got, c.want) {
			t.Errorf("All of %s = %s, want %s", told(c.l...), told(got...), told(c.want...))
		}
	}
}

// P9.4, R1: each three and some longer rows of steps, that may be or not, against the words; what is told becomes nothing less.
func TestEachAll(t *testing.T) {
	steps := slices.Concat([]api.Prim{mk("a"), rmdir("a"), touch("a"), rm("a"), mv("a", "b"), mv("b", "a"), mv("b", "c"), mv("a", "a"), {}}, puts(1, 0, 1), []api.Prim{put(1, "xx", ""), put(2, "", "yx"), put(-1, "x", "")})
	n := len(steps)
	for i := range n * n * n {
		a, b, c := steps[i%n], steps[i/n%n], steps[i/n/n]
		for _, l := range [][]api.Prim{{a, b, c}, {a, b, c, b}, {c, a, b, a, c, b, c}} {
			got := fuse.All(l...)
			if want := slowAll(l...); !prim.SameAll(got, want) {
				t.Fatalf("All of %s = %s, want %s", told(l...), told(got...), told(want...))
			}
			if again := fuse.All(got...); !prim.SameAll(again, got) {
				t.Fatalf("All of %s = %s, and then %s", told(l...), told(got...), told(again...))
			}
		}
	}
}

// P9.4: a long row, that becomes nothing, and one that becomes few.
func TestAllLong(t *testing.T) {
	var there []api.Prim
	for i := range 20000 {
		there = append(there, mk("p"+strconv.Itoa(i)))
	}
	if got := fuse.All(append(there, prim.Back(there...)...)...); len(got) != 0 {
		t.Errorf("All = %s", told(got...))
	}
	var rises []api.Prim
	for i := range 3000 {
		rises = append(rises, put(i, "", "x"))
	}
	// The hunk that has one line more than may be takes in none any more.
	want := []api.Prim{hunk("f", 0, nil, many(2001, "x")), hunk("f", 2001, nil, many(999, "x"))}
	if got := fuse.All(rises...); !prim.SameAll(got, want) {
		t.Errorf("All = %s", told(got...))
	}
}

// sameEnd looks whether steps that came to a tree do so, too, as what All makes of them.
func sameEnd(t *testing.T, of, end tree.Tree, l []api.Prim) {
	t.Helper()
	made := fuse.All(l...)
	got, e := prim.All(of, made...)
	if e != api.OK || !tree.Same(got, end) {
		t.Fatalf("%s behind %s = %d: %s; want %s, as of %s", told(made...), shown(of.All()), e, shown(got.All()), shown(end.All()), told(l...))
	}
}

// rows tells what all rows of so many of these steps come to that can be done to a tree, and calls look of each.
func rows(of tree.Tree, all, done []api.Prim, most int, look func(end tree.Tree, l []api.Prim)) {
	look(of, done)
	if most == 0 {
		return
	}
	for _, p := range all {
		if next, e := prim.Apply(of, p); e == api.OK {
			rows(next, all, append(slices.Clone(done), p), most-1, look)
		}
	}
}

// P9.5: rows of steps of each kind, done to small trees; each of P9.3's ways comes up on the way.
func TestTheSame(t *testing.T) {
	var all []api.Prim
	names := []string{"a", "b", "d/a"}
	all = append(all, mk("d"), rmdir("d"))
	for _, p := range names {
		all = append(all, touch(p), rm(p), hunk(p, 0, nil, letters("x")), hunk(p, 0, letters("x"), letters("y")), hunk(p, 1, letters("y"), nil))
		for _, to := range names {
			if to != p {
				all = append(all, mv(p, to))
			}
		}
	}
	shorter := 0
	for _, l := range [][]api.File{nil, {dir("d")}, {file("a")}, {file("a", "x", "y"), file("b", "y")}, {dir("d"), file("d/a", "x")}} {
		of := must(t, l...)
		rows(of, all, nil, 4, func(end tree.Tree, l []api.Prim) {
			sameEnd(t, of, end, l)
			if len(fuse.All(l...)) < len(l) {
				shorter++
			}
		})
	}
	if shorter < 1000 {
		t.Errorf("%d rows became shorter", shorter)
	}
}

// spans are all hunks that can be done to a file of these lines, and leave at most so many.
func spans(l []string, most int) []api.Prim {
	var all []api.Prim
	for at := range len(l) + 1 {
		for goes := range len(l) - at + 1 {
			for _, new := range []string{"", "x", "z", "xz", "zxy"} {
				if goes+len(new) > 0 && len(l)-goes+len(new) <= most {
					all = append(all, hunk("f", at, l[at:at+goes], letters(new)))
				}
			}
		}
	}
	return all
}

// P9.2, P9.3, P9.5: each two, and many three hunks that can be done to a file, one behind the other: those that touch become one, and that does what both do.
func TestTheSameHunks(t *testing.T) {
	of := must(t, file("f", letters("axbx")...))
	lines := func(at tree.Tree) []string {
		f, _ := at.Get("f")
		return f.Lines
	}
	for i, p := range spans(lines(of), 7) {
		between, _ := prim.Apply(of, p)
		for j, q := range spans(lines(between), 7) {
			end, e := prim.Apply(between, q)
			if e != api.OK {
				t.Fatalf("Apply %s = %d", told(q), e)
			}
			h, ok := fuse.Hunks(p, q)
			if ok != fuse.Touch(p, q) {
				t.Errorf("Hunks of %s = %s %v", told(p, q), told(h), ok)
			}
			if l, one := fuse.Pair(p, q); one != ok || len(l) > 1 || ok && len(l) == 0 != slices.Equal(h.Old, h.New) {
				t.Errorf("Pair of %s = %s %v", told(p, q), told(l...), one)
			}
			sameEnd(t, of, end, []api.Prim{p, q})
			for k, r := range spans(lines(end), 6) {
				if (i+j+k)%7 == 0 {
					third, _ := prim.Apply(end, r)
					sameEnd(t, of, third, []api.Prim{p, q, r})
				}
			}
		}
	}
}

// P9.5, R7: where a file has as many lines as may be, behind its steps, or ahead of them, and on the way.
func TestTheSameFull(t *testing.T) {
	of := must(t, file("f", many(2000, "x")...))
	half := slices.Concat(many(1000, "x"), many(1000, "y"))
	for _, l := range [][]api.Prim{
		{hunk("f", 0, many(2000, "x"), many(2000, "y")), hunk("f", 0, many(2000, "y"), many(2000, "z"))},
		{hunk("f", 0, many(1000, "x"), nil), hunk("f", 0, many(1000, "x"), many(2000, "y")), hunk("f", 1, many(1999, "y"), nil)},
		{hunk("f", 1000, many(1000, "x"), many(1000, "y")), hunk("f", 0, half, many(2000, "z"))},
		{hunk("f", 0, many(2000, "x"), nil), hunk("f", 0, nil, many(2000, "y"))},
		{hunk("f", 0, many(2000, "x"), nil), hunk("f", 0, nil, many(2000, "x"))},
	} {
		end, e := prim.All(of, l...)
		if e != api.OK {
			t.Fatalf("All %s = %d", told(l...), e)
		}
		sameEnd(t, of, end, l)
		if made := fuse.All(l...); len(made) > 1 {
			t.Errorf("All of %s = %s", told(l...), told(made...))
		}
	}
}

// spoil changes all that a list of lines has, and its spare room, to a word.
func spoil(l []string, word string) {
	for i := range l[:cap(l)] {
		l[:cap(l)][i] = word
	}
}

// R3: what is handed in stays as it is, its spare room too; what is answered shares memory with it in nothing, and no two lists of one answer share any.
func TestMemory(t *testing.T) {
	begin := []string{"x", "x", "y", "spare", "room"}
	for _, c := range []func(l []string) []api.Prim{
		func(l []string) []api.Prim {
			return []api.Prim{hunk("f", 0, l[:1], l[:2]), hunk("f", 1, l[:1], l[2:3])}
		},
		func(l []string) []api.Prim {
			return []api.Prim{hunk("f", 0, l[:1], l[:2]), hunk("f", 0, l[:2], l[2:3])}
		},
		func(l []string) []api.Prim { return []api.Prim{hunk("f", 0, l[:0], l[:2]), hunk("f", 2, l[:1], l[:0])} },
		func(l []string) []api.Prim {
			return []api.Prim{hunk("f", 0, l[:1], l[:0]), hunk("f", 0, l[:0], l[2:3])}
		},
		func(l []string) []api.Prim {
			return []api.Prim{hunk("f", 1, l[:0], l[:1]), hunk("f", 0, l[:2], l[2:3])}
		},
		func(l []string) []api.Prim {
			return []api.Prim{hunk("f", 0, l[2:3], l[1:3]), hunk("f", 1, l[2:3], l[:0])}
		},
		func(l []string) []api.Prim { return []api.Prim{hunk("f", 5, l[:1], l[:3]), hunk("f", 0, l[:1], l[:3])} },
		func(l []string) []api.Prim {
			return []api.Prim{hunk("f", -1, l[:1], l[:3]), {Kind: 9, Old: l[:1], New: l[:3]}}
		},
	} {
		l := slices.Clone(begin)
		given := c(l)
		same := c(slices.Clone(begin))
		wantAll := slowAll(same...)
		wantPair, _ := slowPair(same[0], same[1])
		wantHunk, _ := slowHunks(same[0], same[1])
		all := fuse.All(given...)
		pair, _ := fuse.Pair(given[0], given[1])
		h, _ := fuse.Hunks(given[0], given[1])
		fuse.Touch(given[0], given[1])
		if !slices.Equal(l, begin) || !prim.SameAll(given, same) {
			t.Errorf("what was handed in is %q, %s", l, told(given...))
		}
		spoil(l, "changed")
		given[0], given[1] = api.Prim{}, api.Prim{}
		if !prim.SameAll(all, wantAll) || !prim.SameAll(pair, wantPair) || !prim.Same(h, wantHunk) {
			t.Errorf("what was answered became %s, %s, %s", told(all...), told(pair...), told(h))
		}
		for _, p := range slices.Concat(all, pair, []api.Prim{h}) {
			old := slices.Clone(p.Old)
			spoil(p.New, "answered")
			if !slices.Equal(p.Old, old) {
				t.Errorf("Old became %q, with New", p.Old)
			}
			spoil(p.Old, "answered")
		}
		if !slices.Equal(l, many(5, "changed")) {
			t.Errorf("what was handed in became %q", l)
		}
	}
}
