package diff_test

import (
	"math"
	"slices"
	"strconv"
	"strings"
	"testing"

	"rafter/api"
	"rafter/diff"
)

// many are n lines, each of which says the same.
func many(n int, line string) []string { return slices.Repeat([]string{line}, n) }

// counted are n lines, no two of which are the same.
func counted(n int) []string {
	var l []string
	for i := range n {
		l = append(l, "line "+strconv.Itoa(i))
	}
	return l
}

// letters are lines of one letter each.
func letters(s string) []string { return strings.Split(s, "")[:len(s)] }

// lists answers each list of up to n of these texts.
func lists(n int, of ...string) [][]string {
	all := [][]string{nil}
	for i := 0; i < len(all); i++ {
		for _, s := range of {
			if len(all[i]) < n {
				all = append(all, append(slices.Clone(all[i]), s))
			}
		}
	}
	return all
}

// pairs calls f with each pair of short lists.
func pairs(f func(a, b []string)) {
	two, three := lists(5, "a", "b"), lists(4, "a", "b", "c")
	for _, l := range [][][]string{two, three} {
		for _, a := range l {
			for _, b := range l {
				f(a, b)
			}
		}
	}
}

// isLeft tells whether part is left of l by leaving lines out.
func isLeft(part, l []string) bool {
	for _, s := range l {
		if len(part) > 0 && part[0] == s {
			part = part[1:]
		}
	}
	return len(part) == 0
}

// slowAlike looks at each list that is left of a, whether it is left of b, too.
func slowAlike(a, b []string) int {
	best := 0
	for mask := range 1 << len(a) {
		var part []string
		for i, s := range a {
			if mask&(1<<i) != 0 {
				part = append(part, s)
			}
		}
		if len(part) > best && isLeft(part, b) {
			best = len(part)
		}
	}
	return best
}

// slowHunks walks through both lists as the chapter's words do.
func slowHunks(a, b []string) []api.Hunk {
	var l []api.Hunk
	at, run := 0, false
	grow := func() *api.Hunk {
		if !run {
			l = append(l, api.Hunk{At: at})
		}
		run = true
		return &l[len(l)-1]
	}
	for len(a)+len(b) > 0 {
		if len(a) > 0 && len(b) > 0 && a[0] == b[0] {
			a, b, at, run = a[1:], b[1:], at+1, false
		} else if len(b) == 0 || len(a) > 0 && slowAlike(a[1:], b) >= slowAlike(a, b[1:]) {
			h := grow()
			h.Old = append(h.Old, a[0])
			a, at = a[1:], at+1
		} else {
			h := grow()
			h.New = append(h.New, b[0])
			b = b[1:]
		}
	}
	return l
}

// same holds hunks against each other, other than package diff does.
func same(a, b []api.Hunk) bool {
	return slices.EqualFunc(a, b, func(g, h api.Hunk) bool {
		return g.At == h.At && slices.Equal(g.Old, h.Old) && slices.Equal(g.New, h.New)
	})
}

// one is a hunk of lines of one letter each.
func one(at int, old, new string) api.Hunk {
	return api.Hunk{At: at, Old: letters(old), New: letters(new)}
}

// P4.1: each pair of short lists against the words.
func TestAlikeAndHunksOfEachPair(t *testing.T) {
	pairs(func(a, b []string) {
		if got, want := diff.Alike(a, b), slowAlike(a, b); got != want {
			t.Errorf("Alike(%v, %v) = %d, want %d", a, b, got, want)
		}
		if got, want := diff.Hunks(a, b), slowHunks(a, b); !same(got, want) {
			t.Errorf("Hunks(%v, %v) = %v, want %v", a, b, got, want)
		}
	})
}

// P4.1: hunks that are known.
func TestHunks(t *testing.T) {
	for _, c := range []struct {
		a, b string
		want []api.Hunk
	}{
		{"", "", nil},
		{"abc", "abc", nil},
		{"abc", "axc", []api.Hunk{one(1, "b", "x")}},
		{"ab", "bc", []api.Hunk{one(0, "a", ""), one(2, "", "c")}},
		{"", "abc", []api.Hunk{one(0, "", "abc")}},
		{"abc", "", []api.Hunk{one(0, "abc", "")}},
		{"abc", "xyz", []api.Hunk{one(0, "abc", "xyz")}},
		{"ab", "ba", []api.Hunk{one(0, "a", ""), one(2, "", "a")}}, // both ways are as much alike: the old one goes first
		{"a", "aa", []api.Hunk{one(1, "", "a")}},                   // the first a is taken, though the second one ends both, too
		{"aa", "a", []api.Hunk{one(1, "a", "")}},
		{"ab", "aab", []api.Hunk{one(1, "", "a")}},
		{"abcabba", "cbabac", []api.Hunk{one(0, "ab", ""), one(3, "a", ""), one(5, "", "a"), one(7, "", "c")}},
		{"abcdef", "bxdyf", []api.Hunk{one(0, "a", ""), one(2, "c", "x"), one(4, "e", "y")}},
		{"axb", "yaz", []api.Hunk{one(0, "", "y"), one(1, "xb", "z")}},
	} {
		if got := diff.Hunks(letters(c.a), letters(c.b)); !same(got, c.want) {
			t.Errorf("Hunks of %s and %s = %v, want %v", c.a, c.b, got, c.want)
		}
	}
	texts := diff.Hunks([]string{"", "a b", "\t", "\xff\n"}, []string{"a b", "", "\t", "\xfe\n"})
	want := []api.Hunk{{At: 0, Old: []string{""}}, {At: 2, New: []string{""}}, {At: 3, Old: []string{"\xff\n"}, New: []string{"\xfe\n"}}}
	if !same(texts, want) {
		t.Errorf("Hunks of any texts = %v", texts)
	}
}

// P4.1: how much is alike, of lists of 400 lines, and of the first 400 of longer ones.
func TestAlike(t *testing.T) {
	l := counted(900)
	for _, c := range []struct {
		a, b []string
		want int
	}{
		{nil, nil, 0},
		{nil, []string{"a"}, 0},
		{[]string{""}, []string{""}, 1},
		{[]string{"a"}, []string{"A"}, 0},
		{letters("abcabba"), letters("cbabac"), 4},
		{l[:400], l[:400], 400},
		{l[:400], l[1:400], 399},
		{l[:401], l[:401], 400},
		{l, l, 400},
		{l, l[:100], 100},
		{l, l[399:], 1},
		{l[399:], l, 1},
		{l[400:], l, 0},
		{l, l[400:], 0},
		{l[400:], l[400:], 400},
		{many(500, "a"), many(900, "a"), 400},
		{many(500, "a"), many(399, "a"), 399},
		{append(many(399, "a"), "b", "c"), append(many(399, "x"), "b", "c"), 1},
		{append([]string{"x"}, l[:400]...), l[:400], 399}, // the last line is the 401st one here, the 400th one there
	} {
		if got := diff.Alike(c.a, c.b); got != c.want {
			t.Errorf("Alike of %d lines and %d = %d, want %d", len(c.a), len(c.b), got, c.want)
		}
		if got := diff.Alike(c.b, c.a); got != c.want {
			t.Errorf("Alike of %d lines and %d = %d, want %d", len(c.b), len(c.a), got, c.want)
		}
	}
}

// hasHunks looks whether the hunks of both lists are these.
func hasHunks(t *testing.T, a, b []string, want ...api.Hunk) {
	t.Helper()
	if got := diff.Hunks(a, b); !same(got, want) {
		t.Errorf("Hunks of %d lines and %d = %d hunks: %v, want %v", len(a), len(b), len(got), got, want)
	}
}

// P4.1: 400 lines are walked through, each change on its own; with one line more, of one list, there is one hunk.
func TestHunksOfManyLines(t *testing.T) {
	a := counted(400)
	b := slices.Clone(a)
	b[3], b[397] = "x", "y"
	hasHunks(t, a, b, api.Hunk{At: 3, Old: a[3:4], New: b[3:4]}, api.Hunk{At: 397, Old: a[397:398], New: b[397:398]})
	long := append(slices.Clone(a), "z")
	hasHunks(t, long, b, api.Hunk{At: 3, Old: long[3:], New: b[3:]})
	hasHunks(t, b, long, api.Hunk{At: 3, Old: b[3:], New: long[3:]})
	longer := append(slices.Clone(b), "z")
	hasHunks(t, long, longer, api.Hunk{At: 3, Old: a[3:398], New: b[3:398]})
	hasHunks(t, long, long)
	hasHunks(t, a, a)
	hasHunks(t, a, long, api.Hunk{At: 400, New: []string{"z"}})
	hasHunks(t, long, a, api.Hunk{At: 400, Old: []string{"z"}})
	hasHunks(t, nil, long, api.Hunk{At: 0, New: long})
	hasHunks(t, long, nil, api.Hunk{At: 0, Old: long})
	hasHunks(t, nil, a, api.Hunk{At: 0, New: a})
	hasHunks(t, long, counted(5), api.Hunk{At: 5, Old: long[5:]})
}

// P4.1: of more than 400 lines, what both begin with is as long as can be, ahead of what both end with.
func TestHunksBeginAheadOfEnd(t *testing.T) {
	a := []string{"a"}
	hasHunks(t, many(400, "a"), many(401, "a"), api.Hunk{At: 400, New: a})
	hasHunks(t, many(401, "a"), many(400, "a"), api.Hunk{At: 400, Old: a})
	hasHunks(t, many(403, "a"), many(401, "a"), api.Hunk{At: 401, Old: many(2, "a")})
	xs := many(399, "x")
	x := func(begin, end string) []string { return slices.Concat(letters(begin), xs, letters(end)) }
	hasHunks(t, x("a", "bb"), x("a", "b"), api.Hunk{At: 401, Old: []string{"b"}})
	hasHunks(t, x("ab", "ab"), x("ab", ""), api.Hunk{At: 401, Old: letters("ab")})
	hasHunks(t, x("aa", ""), x("a", ""), api.Hunk{At: 1, Old: []string{"a"}})
	hasHunks(t, x("aba", "c"), x("a", "c"), api.Hunk{At: 1, Old: letters("ba")})
	hasHunks(t, x("a", "c"), x("aba", "c"), api.Hunk{At: 1, New: letters("ba")})
	hasHunks(t, x("abc", "d"), x("bc", "e"), api.Hunk{At: 0, Old: x("abc", "d"), New: x("bc", "e")})
	hasHunks(t, x("abc", ""), x("ac", ""), api.Hunk{At: 1, Old: []string{"b"}})
}

// wrongHunks are hunks that may not be.
func wrongHunks() [][]api.Hunk {
	return [][]api.Hunk{
		{{}},
		{{At: 3}},
		{{At: 0, Old: []string{}, New: []string{}}},
		{one(-1, "a", "b")},
		{one(-1, "", "b")},
		{one(math.MinInt, "a", "")},
		{one(0, "a", "b"), {At: 5}},
		{{At: 5}, one(8, "a", "b")},
		{one(0, "a", "b"), one(1, "c", "")},
		{one(0, "a", "b"), one(1, "", "c")},
		{one(0, "ab", ""), one(1, "b", "")},
		{one(0, "ab", ""), one(2, "b", "")},
		{one(0, "", "a"), one(0, "", "b")},
		{one(0, "", "a"), one(0, "b", "")},
		{one(5, "a", "b"), one(0, "a", "b")},
		{one(5, "", "b"), one(4, "", "b")},
		{one(0, "", "a"), one(2, "", "a"), one(2, "", "a")},
		{one(0, "", "a"), one(-1, "", "a")},
		{one(math.MaxInt, "a", "b"), one(math.MaxInt, "a", "b")},
		{one(math.MaxInt-1, "ab", ""), one(math.MaxInt, "a", "b")},
		{one(math.MaxInt-1, "a", ""), one(math.MaxInt, "a", "b")},
		{one(math.MaxInt, "a", ""), one(0, "a", "")},
		{one(math.MaxInt, "a", ""), one(math.MinInt, "a", "")},
	}
}

// rightHunks are hunks that may be.
func rightHunks() [][]api.Hunk {
	return [][]api.Hunk{
		nil,
		{},
		{one(0, "a", "")},
		{one(0, "", "a")},
		{{At: 7, Old: []string{""}}},
		{one(0, "a", "a")},
		{one(math.MaxInt, "abc", "")},
		{one(0, "a", "b"), one(2, "c", "")},
		{one(0, "", "b"), one(1, "", "c")},
		{one(0, "", "aaaa"), one(1, "c", "")},
		{one(3, "ab", ""), one(6, "", "c"), one(7, "x", "y")},
		{one(0, "a", ""), one(math.MaxInt, "a", "")},
		{one(math.MaxInt-2, "a", ""), one(math.MaxInt, "abcd", "")},
		{{At: 0, Old: []string{"\n\xff"}, New: many(5000, "\r")}},
	}
}

// P4.2: hunks that may be, and that may not.
func TestCheck(t *testing.T) {
	for _, l := range rightHunks() {
		if e := diff.Check(l); e != api.OK {
			t.Errorf("Check(%v) = %d", l, e)
		}
	}
	for _, l := range wrongHunks() {
		if e := diff.Check(l); e != api.ErrForm {
			t.Errorf("Check(%v) = %d", l, e)
		}
	}
}

// P4.2: what is done.
func TestApply(t *testing.T) {
	for _, c := range []struct {
		a    string
		l    []api.Hunk
		want string
	}{
		{"", nil, ""},
		{"abc", nil, "abc"},
		{"", []api.Hunk{one(0, "", "ab")}, "ab"},
		{"ab", []api.Hunk{one(0, "ab", "")}, ""},
		{"abc", []api.Hunk{one(1, "b", "x")}, "axc"},
		{"abc", []api.Hunk{one(0, "", "x")}, "xabc"},
		{"abc", []api.Hunk{one(3, "", "x")}, "abcx"},
		{"abc", []api.Hunk{one(0, "", "x"), one(1, "", "y"), one(2, "", "z"), one(3, "", "w")}, "xaybzcw"},
		{"abc", []api.Hunk{one(0, "a", "xyz"), one(2, "c", "")}, "xyzb"},
		{"abcdef", []api.Hunk{one(0, "ab", ""), one(3, "d", "d"), one(5, "f", "gh")}, "cdegh"},
		{"aaa", []api.Hunk{one(0, "a", ""), one(2, "a", "b")}, "ab"},
	} {
		if got, e := diff.Apply(letters(c.a), c.l); !slices.Equal(got, letters(c.want)) || e != api.OK {
			t.Errorf("Apply(%s, %v) = %v, %d, want %s", c.a, c.l, got, e, c.want)
		}
	}
}

// P4.2: old lines that are not there; what Check says is told ahead of it.
func TestApplyWrong(t *testing.T) {
	refused := func(a []string, l []api.Hunk, want api.Errno) {
		t.Helper()
		if got, e := diff.Apply(a, l); len(got) != 0 || e != want {
			t.Errorf("Apply(%v, %v) = %v, %d, want error %d", a, l, got, e, want)
		}
	}
	abc := letters("abc")
	for _, l := range [][]api.Hunk{
		{one(0, "b", "a")},
		{one(1, "a", "")},
		{one(0, "A", "")},
		{one(2, "cd", "x")},
		{one(0, "abcd", "")},
		{one(3, "c", "")},
		{one(3, "d", "x")},
		{one(4, "", "x")},
		{one(4, "x", "")},
		{one(math.MaxInt, "", "x")},
		{one(math.MaxInt, "a", "x")},
		{one(math.MaxInt-1, "ab", "")},
		{{At: 0, Old: []string{""}}},
		{one(0, "a", "x"), one(2, "b", "")},
		{one(0, "", "x"), one(2, "b", "")}, // places are those of the old list
		{one(0, "ab", ""), one(4, "", "x")},
		{one(0, "b", ""), one(2, "c", "")},
	} {
		refused(abc, l, api.ErrClash)
	}
	refused(nil, []api.Hunk{one(0, "a", "")}, api.ErrClash)
	refused(nil, []api.Hunk{one(1, "", "a")}, api.ErrClash)
	for _, l := range wrongHunks() {
		refused(abc, l, api.ErrForm)
		refused(nil, l, api.ErrForm)
	}
	refused(abc, []api.Hunk{one(0, "x", ""), {At: 9}}, api.ErrForm)
	refused(abc, []api.Hunk{one(7, "", "x"), one(7, "", "x")}, api.ErrForm)
}

// P4.3: hunks that are known, taken back.
func TestInvert(t *testing.T) {
	for _, c := range []struct{ l, want []api.Hunk }{
		{nil, nil},
		{[]api.Hunk{one(1, "b", "x")}, []api.Hunk{one(1, "x", "b")}},
		{[]api.Hunk{one(0, "a", "xyz"), one(2, "c", "")}, []api.Hunk{one(0, "xyz", "a"), one(4, "", "c")}},
		{[]api.Hunk{one(0, "ab", ""), one(3, "", "xy"), one(5, "f", "g")}, []api.Hunk{one(0, "", "ab"), one(1, "xy", ""), one(5, "g", "f")}},
		{[]api.Hunk{one(0, "abc", "x"), one(4, "e", "yz"), one(6, "g", "")}, []api.Hunk{one(0, "x", "abc"), one(2, "yz", "e"), one(5, "", "g")}},
		{[]api.Hunk{one(math.MaxInt, "ab", "c")}, []api.Hunk{one(math.MaxInt, "c", "ab")}},
	} {
		if got := diff.Invert(c.l); !same(got, c.want) {
			t.Errorf("Invert(%v) = %v, want %v", c.l, got, c.want)
		}
	}
	for _, l := range wrongHunks() {
		if got := diff.Invert(l); len(got) != 0 {
			t.Errorf("Invert(%v) = %v", l, got)
		}
	}
	diff.Invert([]api.Hunk{one(0, "", "a"), one(math.MaxInt, "a", "b")}) // R1: its place is beyond all ints
}

// P4.3: what is taken back twice is as it was, whether it stands in a list or not.
func TestInvertTwice(t *testing.T) {
	for _, l := range rightHunks() {
		if got := diff.Invert(diff.Invert(l)); !same(got, l) {
			t.Errorf("Invert of Invert(%v) = %v", l, got)
		}
	}
}

// P4.3: lines are counted, of hunks that may not be, too.
func TestSize(t *testing.T) {
	for _, c := range []struct {
		l       []api.Hunk
		out, in int
	}{
		{nil, 0, 0},
		{[]api.Hunk{one(1, "b", "x")}, 1, 1},
		{[]api.Hunk{one(0, "abc", "")}, 3, 0},
		{[]api.Hunk{one(0, "", "abc")}, 0, 3},
		{[]api.Hunk{one(0, "ab", "x"), one(5, "c", "xyz")}, 3, 4},
		{[]api.Hunk{one(-1, "ab", "x"), {}, one(-1, "ab", "")}, 4, 1},
	} {
		if out, in := diff.Size(c.l); out != c.out || in != c.in {
			t.Errorf("Size(%v) = %d, %d", c.l, out, in)
		}
	}
}

// P4.3: hunks that are the same, and that are not.
func TestSame(t *testing.T) {
	l := []api.Hunk{one(0, "ab", "x"), one(5, "c", "")}
	for _, c := range []struct {
		a, b []api.Hunk
		want bool
	}{
		{nil, nil, true},
		{nil, []api.Hunk{}, true},
		{nil, []api.Hunk{{}}, false},
		{[]api.Hunk{{}}, []api.Hunk{{Old: []string{}, New: []string{}}}, true},
		{[]api.Hunk{{}}, []api.Hunk{{Old: []string{""}}}, false},
		{[]api.Hunk{{}}, []api.Hunk{{}, {}}, false},
		{l, []api.Hunk{one(0, "ab", "x"), one(5, "c", "")}, true},
		{l, l[:1], false},
		{l, []api.Hunk{one(5, "c", ""), one(0, "ab", "x")}, false},
		{l, []api.Hunk{one(0, "ab", "x"), one(6, "c", "")}, false},
		{l, []api.Hunk{one(0, "ab", "x"), one(5, "", "c")}, false},
		{l, []api.Hunk{one(0, "ab", "x"), one(5, "c", "c")}, false},
		{l, []api.Hunk{one(0, "ab", "x"), one(5, "d", "")}, false},
		{l, []api.Hunk{one(0, "ba", "x"), one(5, "c", "")}, false},
		{l, []api.Hunk{one(0, "ab", "y"), one(5, "c", "")}, false},
		{l, []api.Hunk{one(0, "ab", "xx"), one(5, "c", "")}, false},
		{[]api.Hunk{one(-1, "a", "")}, []api.Hunk{one(-1, "a", "")}, true},
		{[]api.Hunk{one(-1, "a", "")}, []api.Hunk{one(1, "a", "")}, false},
	} {
		if diff.Same(c.a, c.b) != c.want || diff.Same(c.b, c.a) != c.want {
			t.Errorf("Same(%v, %v) = %v", c.a, c.b, !c.want)
		}
	}
}

// back looks whether hunks lead from a to b, and back again, and may be; of lists of up to 400 lines, whether as many stay as are alike.
func back(t *testing.T, a, b []string) {
	t.Helper()
	l := diff.Hunks(a, b)
	if e := diff.Check(l); e != api.OK {
		t.Errorf("Check of Hunks(%v, %v) = %d", a, b, e)
	}
	if got, e := diff.Apply(a, l); !slices.Equal(got, b) || e != api.OK {
		t.Errorf("Apply of Hunks(%v, %v) = %v, %d", a, b, got, e)
	}
	if got, e := diff.Apply(b, diff.Invert(l)); !slices.Equal(got, a) || e != api.OK {
		t.Errorf("Apply of Invert of Hunks(%v, %v) = %v, %d", a, b, got, e)
	}
	out, in := diff.Size(l)
	if n := diff.Alike(a, b); max(len(a), len(b)) <= 400 && (len(a)-out != n || len(b)-in != n) {
		t.Errorf("of %v and %v %d are alike, %d go, %d come", a, b, n, out, in)
	}
}

// P4.4: each pair of short lists.
func TestBackOfEachPair(t *testing.T) {
	pairs(func(a, b []string) { back(t, a, b) })
}

// P4.4: lists around 400 lines, of few texts, by a short rule.
func TestBackOfManyLines(t *testing.T) {
	made := func(n, seed, of int) []string {
		var l []string
		for range n {
			seed = (seed*1103515245 + 12345) % (1 << 31)
			l = append(l, strconv.Itoa(seed>>16%of))
		}
		return l
	}
	for _, of := range []int{1, 2, 3, 10, 1000} {
		for _, n := range []int{60, 399, 400, 401, 700} {
			for _, m := range []int{0, 61, 398, 400, 401, 2000} {
				back(t, made(n, 1, of), made(m, 2, of))
			}
		}
	}
}

// R3: what is handed in stays as it is, its spare room too.
func TestListsStayAsTheyAre(t *testing.T) {
	text := func() []string { return letters("abcabbaspare") }
	made := func() []api.Hunk {
		l := []api.Hunk{one(1, "bcxx", "zzxx"), one(4, "bxx", "xx"), one(9, "spare", "room")}
		l[0].Old, l[0].New = l[0].Old[:2], l[0].New[:2]
		l[1].Old, l[1].New = l[1].Old[:1], l[1].New[:0]
		return l
	}
	for _, n := range []int{0, 6, 7, 12} {
		a, b, l := text(), text(), made()
		b[0], b[8] = "x", "y"
		c := slices.Clone(b)
		diff.Alike(a[:n], b[:7])
		diff.Hunks(a[:n], b[:7])
		diff.Hunks(b[:n], a[:n])
		diff.Apply(a[:n], l[:2])
		diff.Invert(l[:2])
		diff.Check(l[:2])
		diff.Size(l[:2])
		diff.Same(l[:2], made()[:2])
		if !slices.Equal(a, text()) || !slices.Equal(b, c) {
			t.Errorf("lists that were handed in changed: %v %v", a, b)
		}
		for i, want := range made() {
			h := l[i]
			if h.At != want.At || !slices.Equal(h.Old[:cap(h.Old)], want.Old[:cap(want.Old)]) || !slices.Equal(h.New[:cap(h.New)], want.New[:cap(want.New)]) {
				t.Errorf("a hunk that was handed in changed: %v", h)
			}
		}
	}
}

// R3: hunks that are told share no memory with the lists they are of, nor with one another.
func TestHunksAreNew(t *testing.T) {
	long := many(500, "x")
	for what, c := range map[string][2][]string{
		"walked":  {letters("abcdef"), letters("xbcydef")},
		"between": {append(letters("ab"), long...), append(letters("cd"), long...)},
	} {
		a, b := slices.Clone(c[0]), slices.Clone(c[1])
		l := diff.Hunks(a, b)
		want := diff.Hunks(a, b)
		for i, h := range l {
			spoil(h.Old)
			spoil(h.New)
			if i+1 < len(l) && !same(l[i+1:], want[i+1:]) {
				t.Errorf("%s: hunks share memory: %v", what, l)
			}
		}
		if !slices.Equal(a, c[0]) || !slices.Equal(b, c[1]) {
			t.Errorf("%s: a hunk shares memory with a list", what)
		}
		spoil(a)
		spoil(b)
		if !same(want, diff.Hunks(c[0], c[1])) {
			t.Errorf("%s: hunks share memory with a list", what)
		}
	}
}

// spoil writes over a list, and behind it.
func spoil(l []string) {
	for i := range l {
		l[i] = "spoilt"
	}
	_ = append(l, "spoilt")
}

// R3: what Apply tells, also of no hunks, and what Invert tells, is new memory.
func TestAnswersAreNew(t *testing.T) {
	a := letters("abc")
	l := []api.Hunk{one(1, "b", "xy")}
	for _, hunks := range [][]api.Hunk{nil, l, {one(0, "abc", "xyz")}} {
		got, _ := diff.Apply(a, hunks)
		spoil(got)
	}
	for _, h := range diff.Invert(l) {
		spoil(h.Old)
		spoil(h.New)
	}
	if !slices.Equal(a, letters("abc")) || !same(l, []api.Hunk{one(1, "b", "xy")}) {
		t.Errorf("what was handed in is shared with an answer: %v %v", a, l)
	}
}
