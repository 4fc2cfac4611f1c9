package commute_test

import (
	"math"
	"math/big"
	"slices"
	"strconv"
	"strings"
	"testing"

	"rafter/api"
	"rafter/commute"
	"rafter/prim"
	"rafter/tree"
)

// few tells lines in few words.
func few(l []string) string {
	if len(l) > 4 {
		return strconv.Itoa(len(l)) + " lines"
	}
	return strconv.Quote(strings.Join(l, "|"))
}

// told tells steps in few words.
func told(l ...api.Prim) string {
	var s strings.Builder
	for _, p := range l {
		s.WriteString("{" + strconv.Itoa(p.Kind) + " " + strconv.Quote(p.Path) + " " + strconv.Quote(p.To) + " " + strconv.Itoa(p.At) + " " + few(p.Old) + " " + few(p.New) + "}")
	}
	return s.String()
}

// shown tells files in few words.
func shown(l []api.File) string {
	var s strings.Builder
	for _, f := range l[:min(len(l), 8)] {
		s.WriteString(" " + strconv.Quote(f.Path) + " " + strconv.FormatBool(f.Dir) + " " + few(f.Lines))
	}
	return strconv.Itoa(len(l)) + ":" + s.String()
}

// must makes a tree of files that may be one.
func must(t *testing.T, l ...api.File) tree.Tree {
	t.Helper()
	made, e := tree.Of(l...)
	if e != api.OK {
		t.Fatalf("Of %s = %d", shown(l), e)
	}
	return made
}

// dir is a directory, file a file.
func dir(p string) api.File               { return api.File{Path: p, Dir: true} }
func file(p string, l ...string) api.File { return api.File{Path: p, Lines: l} }

// mk, rmdir, touch, rm, mv and hunk are steps, one of each kind.
func mk(p string) api.Prim    { return api.Prim{Kind: 1, Path: p} }
func rmdir(p string) api.Prim { return api.Prim{Kind: 2, Path: p} }
func touch(p string) api.Prim { return api.Prim{Kind: 3, Path: p} }
func rm(p string) api.Prim    { return api.Prim{Kind: 4, Path: p} }
func mv(p, to string) api.Prim {
	return api.Prim{Kind: 5, Path: p, To: to}
}
func hunk(p string, at int, old, new []string) api.Prim {
	return api.Prim{Kind: 6, Path: p, At: at, Old: old, New: new}
}

// many are n lines, each of which says the same.
func many(n int, line string) []string { return slices.Repeat([]string{line}, n) }

// row is a path of so many names.
func row(n int) string { return strings.Repeat("a/", n-1) + "a" }

// put is a hunk of the file f that has so many lines at a place, and so many others instead.
func put(at, old, new int) api.Prim { return hunk("f", at, many(old, "x"), many(new, "y")) }

// wrongSteps are steps that may not be, each by an error of prim.Check, in other ways.
func wrongSteps() []api.Prim {
	x := []string{"x"}
	return []api.Prim{
		{}, {Kind: 7, Path: "a"}, {Kind: -1, Path: "a"}, {Kind: math.MaxInt, Path: "a"}, {Kind: math.MinInt, Path: "a"},
		{Kind: 1, Path: "a", To: "b"}, {Kind: 2, Path: "a", At: 1}, {Kind: 3, Path: "a", Old: x}, {Kind: 5, Path: "a", To: "b", New: x}, {Kind: 6, Path: "f", To: "b", New: x},
		mk(""), rmdir("/"), touch("A"), rm("a/"), mk(row(17)), mv("a", "a"), mv("a", ""), mv("", "a"), mv("a", "B"), mv("A", "b"), hunk("", 0, nil, x), hunk("F", 0, nil, x),
		hunk("f", 0, nil, nil), hunk("f", 0, []string{}, []string{}), hunk("f", -1, nil, x), hunk("f", math.MinInt, x, x), hunk("f", 7, nil, []string{"\n"}), hunk("f", 7, many(2001, ""), nil), hunk("f", 7, x, []string{strings.Repeat("x", 201)}),
	}
}

// rightSteps are steps that may be, of each kind, whose paths are the same, lie within each other, or only begin alike.
func rightSteps() []api.Prim {
	paths := []string{"a", "b", "a/a", "a/b", "a/a/a", "aa", "a.b", "aa/a", row(16)}
	var l []api.Prim
	for _, p := range paths {
		l = append(l, mk(p), rmdir(p), touch(p), rm(p), hunk(p, 0, []string{"x"}, nil), hunk(p, 3, nil, []string{"x", "y"}), hunk(p, 5, []string{"y"}, []string{"y"}))
		for _, to := range paths {
			if to != p {
				l = append(l, mv(p, to))
			}
		}
	}
	return l
}

// slowTouches does as the words of P8.1 say, of a step that may be.
func slowTouches(p api.Prim) []string {
	if p.Kind == 5 {
		return []string{p.Path, p.To}
	}
	return []string{p.Path}
}

// slowApart does as the words of P8.1 say, of steps that may be.
func slowApart(p, q api.Prim) bool {
	for _, a := range slowTouches(p) {
		for _, b := range slowTouches(q) {
			if a == b || p.Kind <= 2 && strings.HasPrefix(b, a+"/") || q.Kind <= 2 && strings.HasPrefix(a, b+"/") {
				return false
			}
		}
	}
	return true
}

// whole is a sum of whole numbers, however great.
func whole(l ...int) *big.Int {
	sum := new(big.Int)
	for _, n := range l {
		sum.Add(sum, big.NewInt(int64(n)))
	}
	return sum
}

// round is a whole number as it is told, once it is beyond all ints.
func round(n *big.Int) int {
	return int(int64(new(big.Int).And(n, new(big.Int).SetUint64(math.MaxUint64)).Uint64()))
}

// slowShift does as the words of P8.2 say, of hunks of one file that may be.
func slowShift(first, second api.Prim) (api.Prim, api.Prim, bool) {
	f, s := first, second
	switch {
	case whole(second.At).Cmp(whole(first.At, len(first.New))) > 0:
		s.At = round(whole(second.At, -len(first.New), len(first.Old)))
	case whole(second.At, len(second.Old)).Cmp(whole(first.At)) < 0:
		f.At = round(whole(first.At, len(second.New), -len(second.Old)))
	default:
		return api.Prim{}, api.Prim{}, false
	}
	return s, f, true
}

// slowPair does as the words of P8.3 say.
func slowPair(p, q api.Prim) (api.Prim, api.Prim, api.Errno) {
	if e := prim.Check(p); e != api.OK {
		return api.Prim{}, api.Prim{}, e
	}
	if e := prim.Check(q); e != api.OK {
		return api.Prim{}, api.Prim{}, e
	}
	a, b, ok := q, p, slowApart(p, q)
	switch {
	case p.Kind == 6 && q.Kind == 6 && p.Path == q.Path:
		a, b, ok = slowShift(p, q)
	case p.Kind == 5 && q.Kind == 6 && q.Path == p.To:
		a.Path, ok = p.Path, true
	case p.Kind == 6 && q.Kind == 5 && q.Path == p.Path:
		b.Path, ok = q.To, true
	}
	if !ok {
		return api.Prim{}, api.Prim{}, api.ErrClash
	}
	return a, b, api.OK
}

// P8.1: which paths a step of each kind touches.
func TestTouches(t *testing.T) {
	for _, c := range []struct {
		p    api.Prim
		want []string
	}{
		{mk("a"), []string{"a"}}, {rmdir("a/b"), []string{"a/b"}}, {touch("a/b/c"), []string{"a/b/c"}}, {rm(row(16)), []string{row(16)}},
		{mv("a", "b"), []string{"a", "b"}}, {mv("b", "a"), []string{"b", "a"}}, {mv("a", "a/b"), []string{"a", "a/b"}}, {mv("a/b", "a"), []string{"a/b", "a"}},
		{hunk("a", 0, []string{"x"}, nil), []string{"a"}}, {hunk("a/b", math.MaxInt, nil, []string{"x"}), []string{"a/b"}},
		{api.Prim{Kind: 3, Path: "a", Old: []string{}, New: []string{}}, []string{"a"}},
	} {
		if got := commute.Touches(c.p); !slices.Equal(got, c.want) {
			t.Errorf("Touches(%s) = %q, want %q", told(c.p), got, c.want)
		}
	}
	for _, p := range wrongSteps() {
		if got := commute.Touches(p); len(got) != 0 {
			t.Errorf("Touches(%s) = %q", told(p), got)
		}
	}
}

// P8.1: which steps are apart, that are known.
func TestApart(t *testing.T) {
	x := []string{"x"}
	for _, c := range []struct {
		p, q api.Prim
		want bool
	}{
		{mk("a"), mk("b"), true}, {mk("a"), mk("a"), false}, {mk("a"), rmdir("a"), false}, {mk("a"), touch("a"), false},
		{mk("a"), mk("a/b"), false}, {mk("a"), touch("a/b/c"), false}, {mk("a"), mv("b", "a/b"), false}, {mk("a"), mv("a/b", "b"), false}, {mk("a"), hunk("a/b", 0, nil, x), false},
		{rmdir("a"), rmdir("a/b"), false}, {rmdir("a"), rm("a/b"), false}, {rmdir("a"), mv("a/b/c", "b"), false}, {rmdir("a/b"), mv("a", "a/b/c"), false},
		{mk("a"), mk("aa"), true}, {mk("a"), touch("a.b"), true}, {rmdir("a"), touch("aa/b"), true}, {mk("a/b"), rmdir("a/c"), true}, {mk("a/b"), touch("a"), true}, {rmdir("a/b"), rm("a"), true}, {mk("a/b"), mv("a/c", "a"), true},
		{touch("a"), touch("a/b"), true}, {rm("a"), touch("a/b"), true}, {hunk("a", 0, nil, x), mv("a/b", "a/c"), true}, {mv("a", "b"), touch("b/c"), true}, {mv("a", "b"), mv("a/b", "b/b"), true},
		{touch("a"), rm("a"), false}, {mv("a", "b"), touch("a"), false}, {mv("a", "b"), touch("b"), false}, {mv("a", "b"), mv("b", "c"), false}, {mv("a", "b"), mv("c", "b"), false}, {mv("a", "b"), mv("b", "a"), false}, {mv("a", "b"), mv("a", "c"), false}, {mv("a", "b"), mv("c", "d"), true},
		{hunk("a", 0, nil, x), hunk("a", 7, nil, x), false}, {hunk("a", 0, nil, x), hunk("b", 0, nil, x), true}, {mv("a", "b"), hunk("b", 0, nil, x), false}, {mv("a", "b"), hunk("a", 0, nil, x), false},
	} {
		if commute.Apart(c.p, c.q) != c.want || commute.Apart(c.q, c.p) != c.want {
			t.Errorf("Apart of %s = %v, %v, want %v", told(c.p, c.q), commute.Apart(c.p, c.q), commute.Apart(c.q, c.p), c.want)
		}
	}
}

// P8.1: each two of many steps against the words; what may not be is apart from nothing.
func TestEachApart(t *testing.T) {
	right := rightSteps()
	for _, p := range right {
		if got := commute.Touches(p); !slices.Equal(got, slowTouches(p)) {
			t.Errorf("Touches(%s) = %q", told(p), got)
		}
		for _, q := range right {
			if commute.Apart(p, q) != slowApart(p, q) {
				t.Errorf("Apart of %s = %v", told(p, q), !slowApart(p, q))
			}
		}
		for _, q := range wrongSteps() {
			if commute.Apart(p, q) || commute.Apart(q, p) {
				t.Errorf("%s are apart", told(p, q))
			}
		}
	}
	for _, p := range wrongSteps() {
		for _, q := range wrongSteps() {
			if commute.Apart(p, q) {
				t.Errorf("%s are apart, and may not be", told(p, q))
			}
		}
	}
}

// shifts looks whether Shift and Pair of two hunks of one file tell what is wanted.
func shifts(t *testing.T, first, second, ahead, behind api.Prim, want bool) {
	t.Helper()
	a, b, ok := commute.Shift(first, second)
	if ok != want || !prim.Same(a, ahead) || !prim.Same(b, behind) {
		t.Errorf("Shift of %s = %s %v, want %s %v", told(first, second), told(a, b), ok, told(ahead, behind), want)
	}
	e := api.ErrClash
	if want {
		e = api.OK
	}
	if a, b, got := commute.Pair(first, second); got != e || !prim.Same(a, ahead) || !prim.Same(b, behind) {
		t.Errorf("Pair of %s = %s %d, want %s %d", told(first, second), told(a, b), got, told(ahead, behind), e)
	}
	if got := commute.Can(first, second); got != want {
		t.Errorf("Can of %s = %v", told(first, second), got)
	}
}

// P8.2: two hunks of one file, at the edges, where they touch, and where they do not any more.
func TestShift(t *testing.T) {
	for _, c := range []struct{ first, second, ahead, behind api.Prim }{
		{hunk("f", 0, []string{"a"}, []string{"b", "c"}), put(4, 1, 0), put(3, 1, 0), hunk("f", 0, []string{"a"}, []string{"b", "c"})},
		{put(0, 1, 2), put(3, 1, 1), put(2, 1, 1), put(0, 1, 2)},
		{put(0, 2, 1), put(2, 0, 1), put(3, 0, 1), put(0, 2, 1)},
		{put(5, 3, 0), put(6, 2, 0), put(9, 2, 0), put(5, 3, 0)},
		{put(5, 0, 3), put(9, 0, 1), put(6, 0, 1), put(5, 0, 3)},
		{put(5, 2, 2), put(8, 1, 1), put(8, 1, 1), put(5, 2, 2)},
		{put(5, 1, 1), put(4, 0, 2), put(4, 0, 2), put(7, 1, 1)},
		{put(5, 1, 1), put(3, 1, 0), put(3, 1, 0), put(4, 1, 1)},
		{put(1, 0, 1), put(0, 0, 7), put(0, 0, 7), put(8, 0, 1)},
		{put(5, 0, 2), put(0, 4, 1), put(0, 4, 1), put(2, 0, 2)},
		{put(2001, 0, 1), put(0, 2000, 2000), put(0, 2000, 2000), put(2001, 0, 1)},
		{put(0, 2000, 0), put(1, 2000, 0), put(2001, 2000, 0), put(0, 2000, 0)},
	} {
		shifts(t, c.first, c.second, c.ahead, c.behind, true)
	}
	for _, c := range []struct{ first, second api.Prim }{
		{put(0, 1, 2), put(2, 1, 1)}, {put(0, 1, 2), put(1, 1, 1)}, {put(0, 1, 2), put(0, 1, 1)}, {put(0, 0, 1), put(0, 1, 0)}, {put(0, 1, 0), put(0, 0, 1)},
		{put(5, 1, 1), put(4, 1, 0)}, {put(5, 1, 1), put(3, 2, 0)}, {put(5, 1, 1), put(5, 0, 1)}, {put(5, 1, 1), put(6, 1, 1)}, {put(5, 1, 1), put(0, 2000, 0)},
		{put(5, 3, 0), put(5, 1, 1)}, {put(5, 0, 2000), put(2005, 1, 0)}, {put(5, 0, 2000), put(2000, 1, 0)}, {put(2000, 1, 0), put(0, 2000, 0)},
	} {
		shifts(t, c.first, c.second, api.Prim{}, api.Prim{}, false)
	}
}

// P8.2: places at the edge of all ints; they are held against each other as whole numbers, and come round.
func TestShiftGreat(t *testing.T) {
	last := math.MaxInt
	for _, c := range []struct{ first, second, ahead, behind api.Prim }{
		{put(0, 3, 1), put(last, 1, 0), put(math.MinInt+1, 1, 0), put(0, 3, 1)},
		{put(0, 1, 3), put(last, 1, 0), put(last-2, 1, 0), put(0, 1, 3)},
		{put(last, 1, 1), put(0, 1, 2), put(0, 1, 2), put(math.MinInt, 1, 1)},
		{put(last, 1, 1), put(last-2, 1, 4), put(last-2, 1, 4), put(math.MinInt+2, 1, 1)},
		{put(last, 1, 1), put(0, 2, 1), put(0, 2, 1), put(last-1, 1, 1)},
		{put(last-3, 5, 2), put(last, 0, 1), put(math.MinInt+2, 0, 1), put(last-3, 5, 2)},
	} {
		shifts(t, c.first, c.second, c.ahead, c.behind, true)
	}
	for _, c := range []struct{ first, second api.Prim }{
		{put(last, 1, 3), put(last, 1, 1)}, {put(last-1, 1, 1), put(last, 3, 1)}, {put(last, 1, 0), put(last-1, 1, 0)}, {put(last, 1, 0), put(last-1, 2000, 0)}, {put(last-2, 0, 3), put(last, 1, 1)}, {put(last-2, 0, 2000), put(last, 2000, 2000)}, {put(last, 2000, 2000), put(last-1, 3, 0)},
	} {
		shifts(t, c.first, c.second, api.Prim{}, api.Prim{}, false)
	}
}

// P8.2: each two of hunks at many places, of few and many lines, against the words.
func TestEachShift(t *testing.T) {
	var l []api.Prim
	for _, at := range []int{0, 1, 2, 3, 4, 5, 6, 1999, 2000, 2001, math.MaxInt - 2001, math.MaxInt - 3, math.MaxInt - 2, math.MaxInt - 1, math.MaxInt} {
		for i := range 16 {
			if i > 0 {
				l = append(l, put(at, i/4, i%4))
			}
		}
		l = append(l, put(at, 2000, 1), put(at, 0, 2000))
	}
	for _, first := range l {
		for _, second := range l {
			a, b, ok := slowShift(first, second)
			shifts(t, first, second, a, b, ok)
		}
	}
}

// P8.2: what may not be, or are no hunks of one file, is not shifted.
func TestShiftWrong(t *testing.T) {
	none := func(p, q api.Prim) {
		t.Helper()
		if a, b, ok := commute.Shift(p, q); ok || !prim.Same(a, api.Prim{}) || !prim.Same(b, api.Prim{}) {
			t.Errorf("Shift of %s = %s %v", told(p, q), told(a, b), ok)
		}
	}
	h := put(100, 1, 1)
	all := append(rightSteps(), wrongSteps()...)
	for _, p := range append(all, hunk("f/f", 0, nil, []string{"x"}), hunk("g", 0, nil, []string{"x"})) {
		none(p, h)
		none(h, p)
	}
	for _, p := range all {
		for _, q := range all {
			if !(p.Kind == 6 && q.Kind == 6 && p.Path == q.Path && prim.Check(p) == api.OK && prim.Check(q) == api.OK) {
				none(p, q)
			}
		}
	}
}

// P8.3: steps that change places, and what they become, that are known.
func TestPair(t *testing.T) {
	x, y := []string{"x"}, []string{"y", ""}
	for _, c := range []struct{ p, q, ahead, behind api.Prim }{
		{mk("a"), mk("b"), mk("b"), mk("a")},
		{mk("a/b"), touch("a/c"), touch("a/c"), mk("a/b")},
		{rm("a"), rmdir("b"), rmdir("b"), rm("a")},
		{mv("a", "b"), mv("c", "d"), mv("c", "d"), mv("a", "b")},
		{mv("a", "b"), hunk("b", 3, x, y), hunk("a", 3, x, y), mv("a", "b")},
		{mv("a/b", "c/d"), hunk("c/d", 0, nil, x), hunk("a/b", 0, nil, x), mv("a/b", "c/d")},
		{hunk("a", 3, x, y), mv("a", "b"), mv("a", "b"), hunk("b", 3, x, y)},
		{hunk("a/b", math.MaxInt, x, nil), mv("a/b", "c"), mv("a/b", "c"), hunk("c", math.MaxInt, x, nil)},
		{mv("a", "b"), hunk("c", 3, x, y), hunk("c", 3, x, y), mv("a", "b")},
		{hunk("c", 3, x, y), mv("a", "b"), mv("a", "b"), hunk("c", 3, x, y)},
		{hunk("a", 0, x, y), hunk("b", 0, x, y), hunk("b", 0, x, y), hunk("a", 0, x, y)},
		{hunk("a", 0, x, y), hunk("a", 4, y, x), hunk("a", 3, y, x), hunk("a", 0, x, y)},
		{hunk("a", 4, y, x), hunk("a", 0, x, y), hunk("a", 0, x, y), hunk("a", 5, y, x)},
		{touch("a"), hunk("b", 1, x, y), hunk("b", 1, x, y), touch("a")},
	} {
		a, b, e := commute.Pair(c.p, c.q)
		if e != api.OK || !prim.Same(a, c.ahead) || !prim.Same(b, c.behind) {
			t.Errorf("Pair of %s = %s %d, want %s", told(c.p, c.q), told(a, b), e, told(c.ahead, c.behind))
		}
		if !commute.Can(c.p, c.q) {
			t.Errorf("%s can't change places", told(c.p, c.q))
		}
	}
}

// P8.3: what does not change places, and which error comes first, where several apply.
func TestPairWrong(t *testing.T) {
	x := []string{"x"}
	arg, pathless, formless := api.Prim{Kind: 9, Path: "A", At: -1}, mk("A"), hunk("a", -1, nil, x)
	for _, c := range []struct {
		p, q api.Prim
		want api.Errno
	}{
		{arg, mk("a"), api.ErrArg}, {mk("a"), arg, api.ErrArg}, {pathless, mk("a"), api.ErrPath}, {mk("a"), pathless, api.ErrPath}, {formless, mk("a"), api.ErrForm}, {mk("a"), formless, api.ErrForm}, {mk("b"), formless, api.ErrForm},
		{arg, pathless, api.ErrArg}, {pathless, arg, api.ErrPath}, {formless, arg, api.ErrForm}, {formless, pathless, api.ErrForm}, {pathless, formless, api.ErrPath}, {arg, formless, api.ErrArg}, {api.Prim{}, api.Prim{}, api.ErrArg},
		{mk("a"), mk("a"), api.ErrClash}, {mk("a"), rmdir("a"), api.ErrClash}, {touch("a"), rm("a"), api.ErrClash}, {rm("a"), touch("a"), api.ErrClash}, {rm("a"), mk("a"), api.ErrClash},
		{mk("a"), touch("a/b"), api.ErrClash}, {touch("a/b"), mk("a"), api.ErrClash}, {rm("a/b"), rmdir("a"), api.ErrClash}, {rmdir("a"), mk("a/b"), api.ErrClash}, {mk("a"), mv("b", "a/b"), api.ErrClash}, {mv("a/b", "b"), rmdir("a"), api.ErrClash}, {mk("a"), hunk("a/b", 0, nil, x), api.ErrClash},
		{touch("a"), hunk("a", 0, nil, x), api.ErrClash}, {hunk("a", 0, x, nil), rm("a"), api.ErrClash}, {touch("a"), mv("a", "b"), api.ErrClash}, {rm("b"), mv("a", "b"), api.ErrClash}, {mv("a", "b"), touch("a"), api.ErrClash}, {mv("a", "b"), rm("b"), api.ErrClash},
		{mv("a", "b"), mv("b", "c"), api.ErrClash}, {mv("a", "b"), mv("b", "a"), api.ErrClash}, {mv("a", "b"), mv("c", "a"), api.ErrClash}, {mv("a", "b"), mv("a", "b"), api.ErrClash},
		{mv("a", "b"), hunk("a", 0, x, nil), api.ErrClash}, {hunk("b", 0, x, nil), mv("a", "b"), api.ErrClash},
		{hunk("a", 0, x, nil), hunk("a", 0, x, nil), api.ErrClash}, {hunk("a", 0, nil, x), hunk("a", 1, nil, x), api.ErrClash},
	} {
		a, b, e := commute.Pair(c.p, c.q)
		if e != c.want || !prim.Same(a, api.Prim{}) || !prim.Same(b, api.Prim{}) {
			t.Errorf("Pair of %s = %s %d, want %d", told(c.p, c.q), told(a, b), e, c.want)
		}
		if commute.Can(c.p, c.q) {
			t.Errorf("%s can change places", told(c.p, c.q))
		}
	}
}

// P8.3, R1, R2: each two of many steps, that may be or not, against the words.
func TestEachPair(t *testing.T) {
	all := append(rightSteps(), wrongSteps()...)
	for _, p := range all {
		for _, q := range all {
			a, b, e := commute.Pair(p, q)
			ahead, behind, want := slowPair(p, q)
			if e != want || !prim.Same(a, ahead) || !prim.Same(b, behind) {
				t.Errorf("Pair of %s = %s %d, want %s %d", told(p, q), told(a, b), e, told(ahead, behind), want)
			}
			if commute.Can(p, q) != (want == api.OK) {
				t.Errorf("Can of %s = %v", told(p, q), want != api.OK)
			}
		}
	}
}

// turns looks whether two steps that were done to a tree, if they change places, come to the same tree, and are both as they were, once they have done so twice.
func turns(t *testing.T, of, end tree.Tree, p, q api.Prim) bool {
	t.Helper()
	ahead, behind, e := commute.Pair(p, q)
	if e != api.OK {
		return false
	}
	got, e := prim.All(of, ahead, behind)
	if e != api.OK || !tree.Same(got, end) {
		t.Errorf("%s behind %s = %d: %s; want %s, as of %s", told(ahead, behind), shown(of.All()), e, shown(got.All()), shown(end.All()), told(p, q))
	}
	if a, b, e := commute.Pair(ahead, behind); e != api.OK || !prim.Same(a, p) || !prim.Same(b, q) {
		t.Errorf("Pair of Pair of %s = %s %d", told(p, q), told(a, b), e)
	}
	return true
}

// eachTwo does each two of these steps to a tree, one behind the other, and tells how many of them changed places, by the kinds of both.
func eachTwo(t *testing.T, of tree.Tree, all []api.Prim) map[[2]int]int {
	t.Helper()
	turned := map[[2]int]int{}
	for _, p := range all {
		between, e := prim.Apply(of, p)
		if e != api.OK {
			continue
		}
		for _, q := range all {
			end, e := prim.Apply(between, q)
			if e == api.OK && turns(t, of, end, p, q) {
				turned[[2]int{p.Kind, q.Kind}]++
			}
		}
	}
	return turned
}

// places are the paths that small trees, and steps, are made of.
func places() []string { return []string{"a", "a/a", "a/a/a", "b", "ab", "c"} }

// steps are all steps at these paths, of few lines.
func steps() []api.Prim {
	parts := [][]string{nil, {"x"}, {"y"}, {"y", "x"}}
	var l []api.Prim
	for _, p := range places() {
		l = append(l, mk(p), rmdir(p), touch(p), rm(p))
		for _, to := range places() {
			l = append(l, mv(p, to))
		}
		for i := range len(parts) * len(parts) {
			for at := range 4 {
				l = append(l, hunk(p, at, parts[i/len(parts)], parts[i%len(parts)]))
			}
		}
	}
	return l
}

// trees are all trees that have something at these paths only, with few lines.
func trees() [][]api.File {
	all := [][]api.File{nil}
	for _, p := range places()[:4] {
		up := p[:max(strings.LastIndex(p, "/"), 0)]
		for _, l := range slices.Clone(all) {
			if up != "" && !slices.ContainsFunc(l, func(f api.File) bool { return f.Path == up && f.Dir }) {
				continue
			}
			for _, f := range []api.File{dir(p), file(p), file(p, "x"), file(p, "y", "x", "y")} {
				all = append(all, append(slices.Clone(l), f))
			}
		}
	}
	return all
}

// P8.4: each two steps of each small tree.
func TestTheSame(t *testing.T) {
	all := steps()
	turned := map[[2]int]int{}
	for _, l := range trees() {
		for kinds, n := range eachTwo(t, must(t, l...), all) {
			turned[kinds] += n
		}
	}
	for p := 1; p <= 6; p++ {
		for q := 1; q <= 6; q++ {
			if turned[[2]int{p, q}] == 0 {
				t.Errorf("no steps of the kinds %d, %d changed places", p, q)
			}
		}
	}
}

// P8.4: each two hunks of a file in which no two lines are the same.
func TestTheSameHunks(t *testing.T) {
	// What a hunk takes away may be old lines, and those that another one brought.
	begin := []string{"a", "b", "c", "d", "e", "f"}
	of := must(t, file("f", begin...))
	comes := [][]string{nil, {"x"}, {"x", "y"}, {"x", "y", "z"}}
	count := 0
	for at := range len(begin) + 1 {
		for goes := range len(begin) - at + 1 {
			for _, new := range comes {
				p := hunk("f", at, begin[at:at+goes], new)
				between, e := prim.Apply(of, p)
				if e != api.OK {
					continue
				}
				f, _ := between.Get("f")
				count += eachBehind(t, of, between, p, f.Lines, comes)
			}
		}
	}
	if count < 100 {
		t.Errorf("%d hunks changed places", count)
	}
}

// eachBehind does each hunk behind one that was done, and tells how many changed places with it.
func eachBehind(t *testing.T, of, between tree.Tree, p api.Prim, l []string, comes [][]string) int {
	t.Helper()
	count := 0
	for at := range len(l) + 1 {
		for goes := range len(l) - at + 1 {
			for _, new := range comes {
				q := hunk("f", at, l[at:at+goes], new)
				if end, e := prim.Apply(between, q); e == api.OK && turns(t, of, end, p, q) {
					count++
				}
			}
		}
	}
	return count
}

// P8.4: at the limits: Pair looks at no tree, and both are done where there is room, else not, as the chapter says.
func TestTheSameFull(t *testing.T) {
	var l []api.File
	for i := range api.MaxFiles - 1 {
		l = append(l, file("p"+strconv.Itoa(i)))
	}
	l = append(l, file("f", many(2000, "x")...))
	of := must(t, l...)
	for _, c := range []struct {
		p, q api.Prim
		room bool
	}{
		{rm("p0"), touch("q"), false}, {rm("p0"), mk("q"), false}, {rm("p0"), rm("p1"), true}, {mv("f", "g"), mv("p0", "q"), true}, {mv("f", "g"), rm("p0"), true},
		{mv("f", "g"), hunk("g", 1999, []string{"x"}, many(1, "y")), true}, {hunk("f", 0, many(2000, "x"), nil), mv("f", "g"), true},
		{hunk("f", 1999, []string{"x"}, nil), hunk("f", 0, nil, []string{"y"}), false}, {hunk("f", 0, []string{"x"}, nil), hunk("f", 1999, nil, []string{"y"}), false},
		{hunk("f", 1999, []string{"x"}, []string{"y"}), hunk("f", 0, []string{"x"}, nil), true},
	} {
		end, e := prim.All(of, c.p, c.q)
		if e != api.OK {
			t.Fatalf("All %s = %d", told(c.p, c.q), e)
		}
		if c.room {
			if !turns(t, of, end, c.p, c.q) {
				t.Errorf("%s don't change places", told(c.p, c.q))
			}
			continue
		}
		ahead, behind, e := commute.Pair(c.p, c.q)
		if e != api.OK {
			t.Errorf("Pair of %s = %d", told(c.p, c.q), e)
		}
		if _, e := prim.All(of, ahead, behind); e != api.ErrBig {
			t.Errorf("All %s = %d", told(ahead, behind), e)
		}
	}
}

// spoil changes all that a list of lines has, and its spare room, to a word.
func spoil(l []string, word string) {
	for i := range l[:cap(l)] {
		l[:cap(l)][i] = word
	}
}

// R3: what is handed in stays as it is, its spare room too; what is answered shares memory with it in nothing, and no two lists of one answer share any.
func TestMemory(t *testing.T) {
	begin := []string{"x", "y", "z", "spare", "room"}
	one := func(p string, at int, l []string) api.Prim { return hunk(p, at, l[:1], l[:3]) }
	bare := func(p api.Prim, l []string) api.Prim {
		p.Old, p.New = l[:0], l[:0]
		return p
	}
	for _, c := range []func(l []string) (api.Prim, api.Prim){
		func(l []string) (api.Prim, api.Prim) { return one("a", 0, l), one("a", 9, l) },
		func(l []string) (api.Prim, api.Prim) { return one("a", 9, l), one("a", 0, l) },
		func(l []string) (api.Prim, api.Prim) { return one("a", 0, l), one("b", 0, l) },
		func(l []string) (api.Prim, api.Prim) { return bare(mv("a", "b"), l), one("b", 0, l) },
		func(l []string) (api.Prim, api.Prim) { return one("a", 0, l), bare(mv("a", "b"), l) },
		func(l []string) (api.Prim, api.Prim) { return bare(mk("a"), l), bare(touch("b"), l) },
	} {
		l := slices.Clone(begin)
		p, q := c(l)
		a, b, e := commute.Pair(p, q)
		ahead, behind, _ := slowPair(c(slices.Clone(begin)))
		if shiftA, shiftB, ok := commute.Shift(p, q); ok {
			a, b = shiftA, shiftB
		}
		commute.Apart(p, q)
		commute.Can(p, q)
		if e != api.OK || !slices.Equal(l, begin) {
			t.Errorf("Pair of %s = %d; what was handed in is %q", told(p, q), e, l)
		}
		spoil(l, "changed")
		lists := [][]string{a.Old, a.New, b.Old, b.New}
		wants := [][]string{ahead.Old, ahead.New, behind.Old, behind.New}
		for i := range lists {
			if !slices.Equal(lists[i], wants[i]) {
				t.Errorf("list %d of what Pair answered became %q", i, lists[i])
			}
			spoil(lists[i], "answered")
		}
		if !slices.Equal(l, many(5, "changed")) {
			t.Errorf("what was handed in became %q", l)
		}
	}
	paths := commute.Touches(mv("a", "b"))
	spoil(paths, "changed")
	if got := commute.Touches(mv("a", "b")); !slices.Equal(got, []string{"a", "b"}) {
		t.Errorf("Touches = %q", got)
	}
}
