package path_test

import (
	"regexp"
	"slices"
	"strings"
	"testing"

	"rafter/path"
)

// pathForm is the form of a path, but for points alone, and for how long all of it may be.
var pathForm = regexp.MustCompile(`\A[a-z0-9._-]{1,40}(/[a-z0-9._-]{1,40}){0,15}\z`)

// isPath tells, other than package path does, whether a text is a path.
func isPath(s string) bool {
	between := "/" + s + "/"
	alone := strings.Contains(between, "/./") || strings.Contains(between, "/../")
	return len(s) <= 200 && pathForm.MatchString(s) && !alone
}

// slowSplit tells the names of what is a path, byte by byte; none of what is none.
func slowSplit(s string) []string {
	if !isPath(s) {
		return nil
	}
	l := []string{""}
	for _, b := range []byte(s) {
		if b == '/' {
			l = append(l, "")
		} else {
			l[len(l)-1] += string(b)
		}
	}
	return l
}

// slowWithin goes up from p, and looks whether it comes by dir.
func slowWithin(p, dir string) bool {
	names := slowSplit(p)
	for i := range names {
		if strings.Join(names[:i], "/") == dir {
			return true
		}
	}
	return false
}

// slowMove lays names of to in the place of those of from.
func slowMove(p, from, to string) string {
	isThere := isPath(p) && (p == from || slowWithin(p, from))
	if !isThere || !isPath(from) || !isPath(to) {
		return p
	}
	names := slices.Concat(slowSplit(to), slowSplit(p)[len(slowSplit(from)):])
	if moved := strings.Join(names, "/"); isPath(moved) {
		return moved
	}
	return p
}

// slowLess goes by a slash that is ahead of all that a name may have.
func slowLess(a, b string) bool {
	if !isPath(a) || !isPath(b) {
		return !isPath(a) && (isPath(b) || a < b)
	}
	return strings.ReplaceAll(a, "/", "\x00") < strings.ReplaceAll(b, "/", "\x00")
}

// texts are all texts of up to n of these letters.
func texts(n int, letters string) []string {
	all := []string{""}
	for i := 0; i < len(all); i++ {
		for _, r := range letters {
			if len(all[i]) < n {
				all = append(all, all[i]+string(r))
			}
		}
	}
	return all
}

// paths are all paths of up to n of these names.
func paths(n int, names ...string) []string {
	all := slices.Clone(names)
	for i := 0; i < len(all); i++ {
		for _, s := range names {
			if strings.Count(all[i], "/") < n-1 {
				all = append(all, all[i]+"/"+s)
			}
		}
	}
	return all
}

// row is a path of so many names.
func row(n int) string { return strings.Repeat("a/", n-1) + "a" }

// long is what names of 40 bytes each begin with, of so many bytes, up to 245: a path, but where a slash ends it, or it is longer than 200.
func long(n int) string {
	a := strings.Repeat("a", 40)
	return strings.Join([]string{a, a, a, a, a, a}, "/")[:n]
}

// wrong are texts that are no paths; the first one is the root.
func wrong() []string {
	a40 := strings.Repeat("a", 40)
	return []string{
		"", "/", "//", "/a", "a/", "a//b", "//a", "a//", "/a/", "a/b/", "/a/b",
		".", "..", "./a", "../a", "a/.", "a/..", "a/./b", "a/../b", "./", "../..",
		"A", "a/B", "a b", "a/b c", " a", "a ", "a\\b", "a\n", "a\x00", "\x00", "é", "a/é/b", "ａ", "a／b", "\xff", "a/\xff", "a#2", "a*", "a`", "a{", "a:b",
		a40 + "a", a40 + "a/b", "b/" + a40 + "a", "b/" + a40 + "a/b",
		row(17), row(18), row(100), row(16) + "/", "/" + row(16), row(8) + "//" + row(8),
		long(201), long(202), long(203), strings.Repeat("a", 201), strings.Repeat("a", 1<<20), strings.Repeat("/", 1<<20), strings.Repeat("a/", 1<<20) + "a",
	}
}

// right are paths, at their edges.
func right() []string {
	a40 := strings.Repeat("a", 40)
	return []string{
		"a", "a/b", "a/b/c", "a/a/a", "0/9/z", "a.b/-/_", "...", "a/.../b", ".a/..b/c.", "-/--", "a/b.c", "x/._", "readme.md",
		a40, a40 + "/" + a40, "a/" + a40, a40 + "/a", row(15), row(16), long(199), long(200), strings.Repeat("abcdefghijk/", 15) + "abcdefghijkl",
	}
}

// P5.1: texts at the edges that the chapter names.
func TestRight(t *testing.T) {
	for _, s := range right() {
		if !path.Right(s) {
			t.Errorf("Right(%q) = false", s)
		}
	}
	for _, s := range wrong() {
		if path.Right(s) {
			t.Errorf("Right(%.300q) = true", s)
		}
	}
}

// P5.1: each byte, alone and in a name.
func TestRightOfEachByte(t *testing.T) {
	for i := range 256 {
		b := string([]byte{byte(i)})
		for _, s := range []string{b, "a" + b, b + "a", "a/" + b, b + "/a", "a" + b + "a", "a/a" + b + "/a"} {
			if path.Right(s) != isPath(s) {
				t.Errorf("Right(%q) = %v", s, !isPath(s))
			}
		}
	}
}

// P5.1: how many names a path may have, and how many bytes, at each length.
func TestRightAtEachLength(t *testing.T) {
	for n := 1; n <= 40; n++ {
		if path.Right(row(n)) != (n <= 16) {
			t.Errorf("Right of %d names = %v", n, n > 16)
		}
		if wide := strings.Repeat("ab12.", n); path.Right(wide) != (n <= 8) {
			t.Errorf("Right of a name of %d bytes = %v", len(wide), n > 8)
		}
	}
	for n := 42; n <= 203; n++ {
		if s := long(n); path.Right(s) != (n <= 200 && !strings.HasSuffix(s, "/")) {
			t.Errorf("Right of %d bytes = %v", n, path.Right(s))
		}
	}
}

// looks looks whether all that is told of one text is what the words say.
func looks(t *testing.T, s string) {
	t.Helper()
	names := slowSplit(s)
	dir, base := "", ""
	var ups []string
	for i := range names {
		dir, base = strings.Join(names[:i], "/"), names[i]
		if i > 0 {
			ups = append(ups, dir)
		}
	}
	if path.Right(s) != isPath(s) {
		t.Errorf("Right(%.300q) = %v", s, path.Right(s))
	}
	if got := path.Split(s); !slices.Equal(got, names) {
		t.Errorf("Split(%.300q) = %.300q", s, got)
	}
	if got := path.Dir(s); got != dir {
		t.Errorf("Dir(%.300q) = %.300q, want %q", s, got, dir)
	}
	if got := path.Base(s); got != base {
		t.Errorf("Base(%.300q) = %.300q, want %q", s, got, base)
	}
	if got := path.Ups(s); !slices.Equal(got, ups) {
		t.Errorf("Ups(%.300q) = %.300q, want %q", s, got, ups)
	}
	if isPath(s) && path.Join(path.Split(s)...) != s {
		t.Errorf("Join of Split(%q) = %q", s, path.Join(path.Split(s)...))
	}
}

// P5.1, P5.2: all short texts, and all of the edges, against the words.
func TestEachText(t *testing.T) {
	for _, l := range [][]string{texts(6, "a./"), texts(4, "ab.-/A"), paths(4, "a", "b.", "..."), right(), wrong()} {
		for _, s := range l {
			looks(t, s)
		}
	}
}

// P5.1: names, and where a path lies, of paths that are known.
func TestSplitDirBase(t *testing.T) {
	for _, c := range []struct {
		p         string
		names     []string
		dir, base string
	}{
		{"a", []string{"a"}, "", "a"},
		{"a/b", []string{"a", "b"}, "a", "b"},
		{"a/b/c", []string{"a", "b", "c"}, "a/b", "c"},
		{"src/.../x.go", []string{"src", "...", "x.go"}, "src/...", "x.go"},
		{row(16), slices.Repeat([]string{"a"}, 16), row(15), "a"},
		{long(200), strings.Split(long(200), "/"), long(163), strings.Repeat("a", 36)},
	} {
		if got := path.Split(c.p); !slices.Equal(got, c.names) {
			t.Errorf("Split(%q) = %q", c.p, got)
		}
		if got := path.Dir(c.p); got != c.dir {
			t.Errorf("Dir(%q) = %q", c.p, got)
		}
		if got := path.Base(c.p); got != c.base {
			t.Errorf("Base(%q) = %q", c.p, got)
		}
	}
	for _, s := range wrong() {
		if len(path.Split(s)) != 0 || path.Dir(s) != "" || path.Base(s) != "" {
			t.Errorf("of %.300q, that is no path: Split %.300q, Dir %.300q, Base %.300q", s, path.Split(s), path.Dir(s), path.Base(s))
		}
	}
}

// P5.1: names become a path, or none.
func TestJoin(t *testing.T) {
	a := slices.Repeat([]string{"a"}, 1<<16)
	a36, a40 := strings.Repeat("a", 36), strings.Repeat("a", 40)
	for _, c := range []struct {
		names []string
		want  string
	}{
		{nil, ""},
		{[]string{""}, ""},
		{[]string{"a"}, "a"},
		{[]string{"a", "b"}, "a/b"},
		{[]string{"b", "a", "b"}, "b/a/b"},
		{[]string{"...", "a.b", "-"}, ".../a.b/-"},
		{[]string{"", "a"}, ""},
		{[]string{"a", ""}, ""},
		{[]string{"a", "", "b"}, ""},
		{[]string{"", ""}, ""},
		{[]string{"."}, ""},
		{[]string{"a", ".."}, ""},
		{[]string{".", "a"}, ""},
		{[]string{"A"}, ""},
		{[]string{"a", "b c"}, ""},
		{[]string{"a", "/"}, ""},
		{[]string{"a/", "b"}, ""},
		{[]string{"a", "/b"}, ""},
		{[]string{"é", "a"}, ""},
		{[]string{"/"}, ""},
		{[]string{"a/"}, ""},
		{[]string{"/a"}, ""},
		{[]string{"a/b"}, ""},
		{[]string{"a/b/c"}, ""},
		{[]string{"a/b", "c"}, ""},
		{[]string{"a", "b/c"}, ""},
		{[]string{"a", "b/c", "d"}, ""},
		{[]string{"c/d", "a", "aa"}, ""},
		{[]string{"a/b", "c/d"}, ""},
		{[]string{row(16)}, ""},
		{[]string{row(8), row(8)}, ""},
		{[]string{long(200)}, ""},
		{a[:15], row(15)},
		{a[:16], row(16)},
		{a[:17], ""},
		{a, ""},
		{[]string{a40, a40, a40, a40, a36}, long(200)},
		{[]string{a40, a40, a40, a40, a36 + "a"}, ""},
		{[]string{a40 + "a"}, ""},
		{[]string{"b", a40 + "a"}, ""},
		{[]string{strings.Repeat("a", 1<<20), "b"}, ""},
	} {
		if got := path.Join(c.names...); got != c.want {
			t.Errorf("Join(%.300q) = %.300q, want %q", c.names, got, c.want)
		}
	}
	if got := path.Join(); got != "" {
		t.Errorf("Join() = %q", got)
	}
}

// P5.1: each row of up to three names, and of texts that are none.
func TestJoinOfEachRow(t *testing.T) {
	of := []string{"a", "b.c", "..", "", "B", "...", "a/b", "b.c/a/..."}
	good := func(s string) bool { return s == "a" || s == "b.c" || s == "..." }
	for _, a := range of {
		for _, b := range of {
			for _, c := range of {
				want := ""
				if good(a) && good(b) && good(c) {
					want = a + "/" + b + "/" + c
				}
				if got := path.Join(a, b, c); got != want {
					t.Errorf("Join(%q, %q, %q) = %q, want %q", a, b, c, got, want)
				}
			}
		}
	}
}

// P5.1: each text by itself is a path of one name, or none: what Split tells as several names is none, as one.
func TestJoinOfOneText(t *testing.T) {
	for _, l := range [][]string{texts(6, "a./"), paths(4, "a", "b.", "..."), right(), wrong()} {
		for _, s := range l {
			want := ""
			if len(slowSplit(s)) == 1 {
				want = s
			}
			if got := path.Join(s); got != want {
				t.Errorf("Join(%.300q) = %.300q, want %q", s, got, want)
			}
			if got := path.Join(s, "b"); (got != "") != (want != "") {
				t.Errorf("Join(%.300q, b) = %.300q", s, got)
			}
		}
	}
}

// P5.2: what is known to lie within a path, and what is not.
func TestWithin(t *testing.T) {
	for _, c := range []struct {
		p, dir string
		want   bool
	}{
		{"a", "", true},
		{"a/b/c", "", true},
		{"a/b", "a", true},
		{"a/b/c", "a", true},
		{"a/b/c", "a/b", true},
		{row(16), row(15), true},
		{long(200), long(163), true},
		{"a", "a", false},
		{"a/b", "a/b", false},
		{"a", "a/b", false},
		{"ab", "a", false},
		{"ab/c", "a", false},
		{"a.b/c", "a", false},
		{"a/bc", "a/b", false},
		{"b/a", "a", false},
		{"c/a/b", "a", false},
		{"a/b", "b", false},
		{"a/b", "a/", false},
		{"a/b", "/", false},
		{"a/b", "/a", false},
		{"a/b", ".", false},
		{"/a", "", false},
		{"", "", false},
		{"", "a", false},
		{"a/", "a", false},
		{"a//b", "a", false},
		{"a/../b", "a", false},
		{"a/B", "a", false},
		{"A/b", "A", false},
		{"../b", "..", false},
		{row(17), row(16), false},
		{row(17), "", false},
		{long(201), long(163), false},
		{long(201), "", false},
		{strings.Repeat("a", 41) + "/b", strings.Repeat("a", 41), false},
	} {
		if got := path.Within(c.p, c.dir); got != c.want {
			t.Errorf("Within(%q, %q) = %v", c.p, c.dir, got)
		}
	}
	for _, s := range wrong() {
		for _, p := range []string{"a", "a/b", s, s + "/a", s + "a"} {
			if s != "" && path.Within(p, s) {
				t.Errorf("%.300q lies within %.300q, that is no path", p, s)
			}
		}
		if path.Within(s, "") || path.Within(s, "a") {
			t.Errorf("%.300q, that is no path, lies within the root, or a", s)
		}
	}
}

// eachPair calls f with each two of some lists' texts, paths and others.
func eachPair(f func(a, b string)) {
	l := slices.Concat(texts(3, "ab/."), texts(3, "a-/"), paths(3, "a", "b", "a-b", "aa"), right(), wrong()[:len(wrong())-3])
	for _, a := range l {
		for _, b := range l {
			f(a, b)
		}
	}
}

// P5.2: each two texts, against the words.
func TestWithinOfEachPair(t *testing.T) {
	eachPair(func(p, dir string) {
		if got := path.Within(p, dir); got != slowWithin(p, dir) {
			t.Errorf("Within(%q, %q) = %v", p, dir, got)
		}
	})
}

// P5.2: paths that move, and that stay.
func TestMove(t *testing.T) {
	for _, c := range []struct{ p, from, to, want string }{
		{"a", "a", "b", "b"},
		{"a", "a", "a", "a"},
		{"a", "a", "b/c/d", "b/c/d"},
		{"a/b", "a", "x", "x/b"},
		{"a/b/c", "a", "x/y", "x/y/b/c"},
		{"a/b/c", "a/b", "x", "x/c"},
		{"a/b/c", "a/b/c", "x", "x"},
		{"a/a/a", "a", "b", "b/a/a"},
		{"a/a/a", "a/a", "b", "b/a"},
		{"a/b", "a", "a/b", "a/b/b"},
		{"a/b/c", "a/b", "a", "a/c"},
		{"ab/c", "a", "x", "ab/c"},
		{"ab", "a", "x", "ab"},
		{"b/a", "a", "x", "b/a"},
		{"a", "a/b", "x", "a"},
		{"a/bc", "a/b", "x", "a/bc"},
		{"a", "b", "c", "a"},
		{"a", "", "x", "a"},
		{"a/b", "", "x/", "a/b"},
		{"a/b", "", "x", "a/b"},
		{"", "", "x", ""},
		{"", "a", "x", ""},
		{"a", "a", "", "a"},
		{"a/b", "a", "", "a/b"},
		{"a/b", "a", "/x", "a/b"},
		{"a/b", "a", "x/", "a/b"},
		{"a/b", "a", "..", "a/b"},
		{"a", "a", "B", "a"},
		{"a/b", "a/", "x", "a/b"},
		{"/a", "/a", "x", "/a"},
		{"/a", "", "x", "/a"},
		{"A", "A", "x", "A"},
		{"A/b", "A", "x", "A/b"},
		{"a/", "a", "x", "a/"},
		{"a/..", "a", "x", "a/.."},
		{"a/B", "a", "x", "a/B"},
		{"a/b", "a", row(15), row(15) + "/b"},
		{"a/b", "a", row(16), "a/b"},
		{row(16), "a", "b", "b/" + row(15)},
		{row(16), "a", "b/c", row(16)},
		{row(16), row(16), "b/c", "b/c"},
		{"b/ab", "b", long(197), long(197) + "/ab"},
		{"b/abc", "b", long(197), "b/abc"},
		{"b/abc", "b/abc", long(200), long(200)},
		{"b", "b", long(201), "b"},
		{long(201), strings.Repeat("a", 40), "b", long(201)},
		{row(17), "a/a", "b", row(17)},
	} {
		if got := path.Move(c.p, c.from, c.to); got != c.want {
			t.Errorf("Move(%q, %q, %q) = %q, want %q", c.p, c.from, c.to, got, c.want)
		}
	}
}

// P5.2: each three texts, against the words; what is no path stays, moves nothing, and is no place to move to.
func TestMoveOfEachThree(t *testing.T) {
	l := slices.Concat(texts(2, "a/."), paths(2, "a", "b", "aa"), []string{"a/b/a", "a/a/b", "A/b", row(15), row(16), row(17), long(199), long(200), long(201), "b/" + long(198)})
	for _, p := range l {
		for _, from := range l {
			for _, to := range l {
				if got, want := path.Move(p, from, to), slowMove(p, from, to); got != want {
					t.Errorf("Move(%q, %q, %q) = %q, want %q", p, from, to, got, want)
				}
			}
		}
	}
	for _, s := range wrong() {
		if path.Move(s, s, "x") != s || path.Move(s, "a", "x") != s || path.Move("a/b", s, "x") != "a/b" || path.Move("a/b", "a", s) != "a/b" || path.Move("a", "a", s) != "a" {
			t.Errorf("Move of, from, or to %.300q, that is no path", s)
		}
	}
}

// P5.2: within which paths one lies.
func TestUps(t *testing.T) {
	for _, c := range []struct {
		p    string
		want []string
	}{
		{"a", nil},
		{"a/b", []string{"a"}},
		{"a/b/c", []string{"a", "a/b"}},
		{"a/a/a/a", []string{"a", "a/a", "a/a/a"}},
		{"b.c/.../x", []string{"b.c", "b.c/..."}},
	} {
		if got := path.Ups(c.p); !slices.Equal(got, c.want) {
			t.Errorf("Ups(%q) = %q, want %q", c.p, got, c.want)
		}
	}
	var rows []string
	for n := 1; n < 16; n++ {
		rows = append(rows, row(n))
	}
	if got := path.Ups(row(16)); !slices.Equal(got, rows) {
		t.Errorf("Ups of 16 names = %q", got)
	}
	for _, s := range wrong() {
		if got := path.Ups(s); len(got) != 0 {
			t.Errorf("Ups(%.300q) = %.300q", s, got)
		}
	}
}

// P5.2: what Ups tells is just that within which the path lies.
func TestUpsAreWithin(t *testing.T) {
	eachPair(func(p, dir string) {
		if got := slices.Contains(path.Ups(p), dir); got != (dir != "" && path.Within(p, dir)) {
			t.Errorf("Ups(%q) has %q: %v", p, dir, got)
		}
	})
}

// P5.3: texts, each of which is ahead of all behind it: what is no path, and paths, name by name.
func TestLess(t *testing.T) {
	l := []string{
		"", "\x00", "/", "/a", "A", "B", "a//b", "a/B", "b/", row(17), "z/..", "é", "\xff",
	}
	slices.Sort(l)
	l = append(l,
		"-", "-/a", "--", "...", "0", "9", "_", "a", "a/-", "a/b", "a/b/a", "a/b/c", "a/b-", "a/b.", "a/b.c/a", "a/b0", "a/bb", "a/c",
		"a-", "a-/b", "a-b", "a.", "a./a", "a.b", "a0", "a10", "a2", "a_", "aa", "aa/a", "ab", "b", "b/a", "ba", "z",
	)
	for i, a := range l {
		for j, b := range l {
			if got := path.Less(a, b); got != (i < j) {
				t.Errorf("Less(%q, %q) = %v", a, b, got)
			}
		}
	}
}

// P5.3: each two texts, against the words; of two that are not the same, just one is ahead.
func TestLessOfEachPair(t *testing.T) {
	eachPair(func(a, b string) {
		if got := path.Less(a, b); got != slowLess(a, b) {
			t.Errorf("Less(%q, %q) = %v", a, b, got)
		}
		if got := path.Less(a, b) != path.Less(b, a); got != (a != b) {
			t.Errorf("Less of %q and %q, both ways round: %v, %v", a, b, path.Less(a, b), path.Less(b, a))
		}
	})
}

// P5.3: a path is behind all within which it lies, and what lies within a path comes right behind it.
func TestLessWithin(t *testing.T) {
	l := paths(3, "a", "b", "a-b", "a.", "a0")
	slices.SortFunc(l, func(a, b string) int {
		if path.Less(a, b) {
			return -1
		}
		return 1
	})
	for i, dir := range l {
		within := i + 1
		for within < len(l) && path.Within(l[within], dir) {
			within++
		}
		for j, p := range l {
			if path.Within(p, dir) != (j > i && j < within) {
				t.Errorf("%q is at %d, %q at %d", dir, i, p, j)
			}
		}
	}
}

// P5.1, P5.2, R3: lists that are answered are new memory, and what is handed in stays as it is, its spare room too.
func TestListsAreNew(t *testing.T) {
	for _, call := range []func(string) []string{path.Split, path.Ups} {
		first := call("a/b/c")
		kept := slices.Clone(first)
		for i := range first {
			first[i] = "changed"
		}
		_ = append(first, "changed")
		if second := call("a/b/c"); !slices.Equal(second, kept) {
			t.Errorf("an answer changed from %q to %q", kept, second)
		}
	}
	begin := []string{"b", "a", "b", "x", "y"}
	names := slices.Clone(begin)
	if got := path.Join(names[:3]...); got != "b/a/b" || !slices.Equal(names, begin) {
		t.Errorf("Join = %q, changed what was handed in to %q", got, names)
	}
}
