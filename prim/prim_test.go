package prim_test

import (
	"maps"
	"math"
	"slices"
	"strconv"
	"strings"
	"testing"

	"rafter/api"
	"rafter/prim"
	"rafter/tree"
)

// model is what a tree is to hold, by its paths; the slow calls do with it what the words of this chapter, and of those that it leans on, say.
type model map[string]api.File

// slowPath tells whether a text is a path, of those that the tests have.
func slowPath(p string) bool {
	if len(p) > 200 || strings.Count(p, "/") > 15 {
		return false
	}
	for s := range strings.SplitSeq(p, "/") {
		if len(s) == 0 || len(s) > 40 || s == "." || s == ".." || strings.Trim(s, "abcdefghijklmnopqrstuvwxyz0123456789.-_") != "" {
			return false
		}
	}
	return true
}

// slowLines tells whether lines may be a file's, of those that the tests have.
func slowLines(l []string) bool {
	for _, line := range l {
		if len(line) > 200 || strings.ContainsAny(line, "\n\x00\xff") {
			return false
		}
	}
	return len(l) <= 2000
}

// slowCheck does as the words of P7.1 say.
func slowCheck(p api.Prim) api.Errno {
	hunk, move := p.Kind == 6, p.Kind == 5
	switch {
	case p.Kind < 1 || p.Kind > 6:
		return api.ErrArg
	case !move && p.To != "", !hunk && (p.At != 0 || len(p.Old) > 0 || len(p.New) > 0):
		return api.ErrArg
	case !slowPath(p.Path), move && !slowPath(p.To), move && p.Path == p.To:
		return api.ErrPath
	case hunk && p.At < 0, hunk && len(p.Old) == 0 && len(p.New) == 0, !slowLines(p.Old), !slowLines(p.New):
		return api.ErrForm
	}
	return api.OK
}

// slowDir tells in which path a path lies.
func slowDir(p string) string { return p[:max(strings.LastIndex(p, "/"), 0)] }

// room tells whether something new may come to a path.
func (m model) room(p string) api.Errno {
	switch {
	case slowDir(p) != "" && !m[slowDir(p)].Dir:
		return api.ErrNone
	case len(m) == 500:
		return api.ErrBig
	}
	return api.OK
}

// holds tells whether something lies in a directory.
func (m model) holds(dir string) bool {
	for p := range m {
		if slowDir(p) == dir {
			return true
		}
	}
	return false
}

// slowMake does a PDir, or a PFile.
func (m model) slowMake(p api.Prim) (model, api.Errno) {
	if _, ok := m[p.Path]; ok {
		return nil, api.ErrTwice
	}
	if e := m.room(p.Path); e != api.OK {
		return nil, e
	}
	made := maps.Clone(m)
	made[p.Path] = api.File{Path: p.Path, Dir: p.Kind == api.PDir}
	return made, api.OK
}

// slowEnd does a PNoDir, or a PNoFile.
func (m model) slowEnd(p api.Prim) (model, api.Errno) {
	f, ok := m[p.Path]
	switch {
	case !ok:
		return nil, api.ErrNone
	case f.Dir != (p.Kind == api.PNoDir):
		return nil, api.ErrDir
	case len(f.Lines) > 0:
		return nil, api.ErrClash
	case m.holds(p.Path):
		return nil, api.ErrFull
	}
	made := maps.Clone(m)
	delete(made, p.Path)
	return made, api.OK
}

// slowMove does a PMove.
func (m model) slowMove(p api.Prim) (model, api.Errno) {
	f, ok := m[p.Path]
	_, taken := m[p.To]
	switch {
	case !ok:
		return nil, api.ErrNone
	case f.Dir:
		return nil, api.ErrDir
	case taken:
		return nil, api.ErrTwice
	case slowDir(p.To) != "" && !m[slowDir(p.To)].Dir:
		return nil, api.ErrNone
	}
	made := maps.Clone(m)
	delete(made, p.Path)
	made[p.To] = api.File{Path: p.To, Lines: f.Lines}
	return made, api.OK
}

// slowHunk does a PHunk.
func (m model) slowHunk(p api.Prim) (model, api.Errno) {
	f, ok := m[p.Path]
	switch {
	case !ok:
		return nil, api.ErrNone
	case f.Dir:
		return nil, api.ErrDir
	case p.At > len(f.Lines) || len(p.Old) > len(f.Lines)-p.At:
		return nil, api.ErrClash
	}
	for i, line := range p.Old {
		if f.Lines[p.At+i] != line {
			return nil, api.ErrClash
		}
	}
	f.Lines = slices.Concat(f.Lines[:p.At], p.New, f.Lines[p.At+len(p.Old):])
	if len(f.Lines) > 2000 {
		return nil, api.ErrBig
	}
	made := maps.Clone(m)
	made[p.Path] = f
	return made, api.OK
}

// slowApply does as the words of P7.2 say.
func (m model) slowApply(p api.Prim) (model, api.Errno) {
	if e := slowCheck(p); e != api.OK {
		return nil, e
	}
	switch p.Kind {
	case api.PDir, api.PFile:
		return m.slowMake(p)
	case api.PMove:
		return m.slowMove(p)
	case api.PHunk:
		return m.slowHunk(p)
	}
	return m.slowEnd(p)
}

// sameFile holds files against each other.
func sameFile(f, g api.File) bool {
	return f.Path == g.Path && f.Dir == g.Dir && slices.Equal(f.Lines, g.Lines)
}

// is tells whether a tree has just what a model has.
func (m model) is(t tree.Tree) bool {
	all := t.All()
	for _, f := range all {
		if g, ok := m[f.Path]; !ok || !sameFile(f, g) {
			return false
		}
	}
	return len(all) == len(m)
}

// few tells lines in few words.
func few(l []string) string {
	if len(l) > 4 {
		return strconv.Itoa(len(l)) + " lines"
	}
	return strconv.Quote(strings.Join(l, "|"))
}

// told tells steps in few words.
func told(l ...api.Prim) string {
	var s strings.Builder
	for _, p := range l {
		s.WriteString("{" + strconv.Itoa(p.Kind) + " " + strconv.Quote(p.Path[:min(len(p.Path), 50)]) + " " + strconv.Quote(p.To[:min(len(p.To), 50)]) + " " + strconv.Itoa(p.At) + " " + few(p.Old) + " " + few(p.New) + "}")
	}
	return s.String()
}

// shown tells files in few words.
func shown(l []api.File) string {
	var s strings.Builder
	for _, f := range l[:min(len(l), 8)] {
		s.WriteString(" " + strconv.Quote(f.Path) + " " + strconv.FormatBool(f.Dir) + " " + few(f.Lines))
	}
	return strconv.Itoa(len(l)) + ":" + s.String()
}

// modelOf tells the model of files that may be a tree.
func modelOf(l []api.File) model {
	m := model{}
	for _, f := range l {
		m[f.Path] = f
	}
	return m
}

// must makes a tree of files that may be one.
func must(t *testing.T, l ...api.File) tree.Tree {
	t.Helper()
	made, e := tree.Of(l...)
	if e != api.OK {
		t.Fatalf("Of %s = %d", shown(l), e)
	}
	return made
}

// dir is a directory, file a file.
func dir(p string) api.File               { return api.File{Path: p, Dir: true} }
func file(p string, l ...string) api.File { return api.File{Path: p, Lines: l} }

// mk, rmdir, touch, rm, mv and hunk are steps, one of each kind.
func mk(p string) api.Prim    { return api.Prim{Kind: 1, Path: p} }
func rmdir(p string) api.Prim { return api.Prim{Kind: 2, Path: p} }
func touch(p string) api.Prim { return api.Prim{Kind: 3, Path: p} }
func rm(p string) api.Prim    { return api.Prim{Kind: 4, Path: p} }
func mv(p, to string) api.Prim {
	return api.Prim{Kind: 5, Path: p, To: to}
}
func hunk(p string, at int, old, new []string) api.Prim {
	return api.Prim{Kind: 6, Path: p, At: at, Old: old, New: new}
}

// many are n lines, each of which says the same.
func many(n int, line string) []string { return slices.Repeat([]string{line}, n) }

// row is a path of so many names.
func row(n int) string { return strings.Repeat("a/", n-1) + "a" }

// wrongPaths are texts that are no paths.
func wrongPaths() []string {
	return []string{
		"", "/", "/a", "a/", "a//b", ".", "..", "a/..", "A", "a/B", "a b", "a\n", "é", "\xff",
		row(17), strings.Repeat("a", 41), strings.Repeat("a", 201), strings.Repeat("abcdefghijkl/", 15) + "abcdef", strings.Repeat("a/", 1<<12) + "a",
	}
}

// wrongLines are lists of lines that may not be a file's.
func wrongLines() [][]string {
	return [][]string{{"\n"}, {"x", "\x00"}, {"\xff", "x"}, {strings.Repeat("x", 201)}, many(2001, ""), many(2001, "\n")}
}

// P7.1: steps that may be, of each kind, and at the edges.
func TestCheckOK(t *testing.T) {
	great := many(2000, strings.Repeat("x", 200))
	long := strings.Repeat("abcdefghijkl/", 15) + "abcde"
	for _, p := range []api.Prim{
		mk("a"), rmdir("a/b"), touch(row(16)), rm(long), mv("a", "b"), mv("a", "a/b"), mv("a/b", "a"), mv(long, row(16)), mv(row(16), long),
		hunk("a", 0, []string{"x"}, nil), hunk("a", 0, nil, []string{"x"}), hunk("a/b", 1, []string{""}, []string{"\ty", ""}),
		hunk("a", 0, []string{"x"}, []string{"x"}), hunk("a", 1<<31, great, great), hunk(long, math.MaxInt, great, nil), hunk(row(16), math.MaxInt, nil, great),
		{Kind: 1, Path: "a", Old: []string{}, New: []string{}},
		{Kind: 5, Path: "a", To: "b", Old: []string{}, New: []string{}},
		{Kind: 6, Path: "a", Old: []string{}, New: []string{"x"}},
	} {
		if e := prim.Check(p); e != api.OK {
			t.Errorf("Check(%s) = %d", told(p), e)
		}
	}
}

// P7.1: steps that may not be, and which error comes first, where several apply.
func TestCheckWrong(t *testing.T) {
	one := []string{"x"}
	for _, c := range []struct {
		p    api.Prim
		want api.Errno
	}{
		{api.Prim{}, api.ErrArg},
		{api.Prim{Kind: 0, Path: "a"}, api.ErrArg},
		{api.Prim{Kind: 7, Path: "a"}, api.ErrArg},
		{api.Prim{Kind: -1, Path: "a"}, api.ErrArg},
		{api.Prim{Kind: 1 << 8, Path: "a"}, api.ErrArg},
		{api.Prim{Kind: 1<<32 + 1, Path: "a"}, api.ErrArg},
		{api.Prim{Kind: math.MaxInt, Path: "a"}, api.ErrArg},
		{api.Prim{Kind: math.MinInt, Path: "a"}, api.ErrArg},
		{api.Prim{Kind: 7, Path: "A"}, api.ErrArg},
		{api.Prim{Kind: 5, Path: "A", To: "B", At: 1}, api.ErrArg},
		{api.Prim{Kind: 5, Path: "a", To: "a", At: 1}, api.ErrArg},
		{api.Prim{Kind: 5, Path: "a", To: "b", At: -1}, api.ErrArg},
		{api.Prim{Kind: 5, Path: "a", To: "b", Old: one}, api.ErrArg},
		{api.Prim{Kind: 5, Path: "a", To: "b", New: one}, api.ErrArg},
		{api.Prim{Kind: 6, Path: "a", To: "b", New: one}, api.ErrArg},
		{api.Prim{Kind: 6, Path: "a", To: "/", New: one}, api.ErrArg},
		{api.Prim{Kind: 6, Path: "a", To: "a"}, api.ErrArg},
		{api.Prim{Kind: 6, Path: "A", To: "a", At: -1}, api.ErrArg},
		{mv("a", ""), api.ErrPath},
		{mv("", "a"), api.ErrPath},
		{mv("", ""), api.ErrPath},
		{mv("a", "a"), api.ErrPath},
		{mv("a/b", "a/b"), api.ErrPath},
		{mv("A", "A"), api.ErrPath},
		{hunk("A", -1, nil, nil), api.ErrPath},
		{hunk("", 0, nil, many(2001, "")), api.ErrPath},
		{hunk("a", 0, nil, nil), api.ErrForm},
		{hunk("a", 0, []string{}, []string{}), api.ErrForm},
		{hunk("a", 7, nil, nil), api.ErrForm},
		{hunk("a", -1, one, one), api.ErrForm},
		{hunk("a", math.MinInt, one, nil), api.ErrForm},
		{hunk("a", -1, nil, nil), api.ErrForm},
	} {
		if e := prim.Check(c.p); e != c.want {
			t.Errorf("Check(%s) = %d, want %d", told(c.p), e, c.want)
		}
	}
	for _, l := range wrongLines() {
		for _, p := range []api.Prim{hunk("a", 0, l, nil), hunk("a", 0, nil, l), hunk("a", 0, l, one), hunk("a", 0, one, l), hunk("a", 0, l, l)} {
			if e := prim.Check(p); e != api.ErrForm {
				t.Errorf("Check(%s) = %d", told(p), e)
			}
		}
	}
	for _, w := range wrongPaths() {
		for _, p := range []api.Prim{mk(w), rmdir(w), touch(w), rm(w), mv(w, "a"), mv("a", w), hunk(w, 0, one, nil)} {
			if e := prim.Check(p); e != api.ErrPath {
				t.Errorf("Check(%s) = %d", told(p), e)
			}
		}
	}
}

// mixed are steps of each kind, and of none, with all parts mixed.
func mixed() []api.Prim {
	texts := []string{"", "a", "b", "a/b", "A", "b/"}
	parts := [][]string{nil, {}, {"x"}, {"x", "y"}, {"\n"}, many(2001, "x")}
	var l []api.Prim
	for kind := -1; kind <= 8; kind++ {
		for i := range len(texts) * len(texts) {
			for j := range len(parts) * len(parts) {
				for _, at := range []int{-1, 0, 1} {
					l = append(l, api.Prim{Kind: kind, Path: texts[i/len(texts)], To: texts[i%len(texts)], At: at, Old: parts[j/len(parts)], New: parts[j%len(parts)]})
				}
			}
		}
	}
	return l
}

// P7.1, P7.2, R1, R2: each of these steps against the words; of one that may not be, Apply tells Check's error, whatever stands there.
func TestCheckMixed(t *testing.T) {
	made := must(t, dir("a"), file("a/b", "x", "y"), file("b"))
	for _, p := range mixed() {
		want := slowCheck(p)
		if e := prim.Check(p); e != want {
			t.Errorf("Check(%s) = %d, want %d", told(p), e, want)
		}
		if want == api.OK {
			continue
		}
		for _, of := range []tree.Tree{{}, made} {
			if got, e := prim.Apply(of, p); e != want || !tree.Same(got, tree.Tree{}) {
				t.Errorf("Apply(%s) = %d: %s, want %d", told(p), e, shown(got.All()), want)
			}
		}
	}
}

// P7.1: steps are the same, if all parts are.
func TestSame(t *testing.T) {
	l := []api.Prim{
		{}, mk("a"), rmdir("a"), touch("a"), rm("a"), mk("b"), mk(""), mv("a", "b"), mv("b", "a"), mv("a", "c"), mv("a", "a"),
		hunk("a", 0, nil, []string{"x"}), hunk("a", 0, []string{"x"}, nil), hunk("a", 1, []string{"x"}, nil), hunk("a", -1, []string{"x"}, nil), hunk("b", 0, []string{"x"}, nil),
		hunk("a", 0, []string{"x"}, []string{"x"}), hunk("a", 0, []string{"x"}, []string{"y"}), hunk("a", 0, []string{"y"}, []string{"x"}),
		hunk("a", 0, []string{"x", ""}, nil), hunk("a", 0, []string{"", "x"}, nil), hunk("a", 0, []string{"x"}, []string{""}), hunk("a", 0, nil, nil),
		hunk("a", 0, []string{"x", "y"}, nil), hunk("a", 0, []string{"xy"}, nil), {Kind: 9, Path: "a"}, {Kind: 9, Path: "b"}, {Kind: 6, Path: "a", To: "b", At: 1},
	}
	for i, p := range l {
		for j, q := range l {
			// A list without an element is the same, nil or empty.
			q.Old, q.New = append([]string{}, q.Old...), append([]string{}, q.New...)
			if prim.Same(p, q) != (i == j) || prim.Same(q, p) != (i == j) {
				t.Errorf("Same(%s, %s) = %v", told(p), told(q), i != j)
			}
		}
	}
}

// P7.1: steps are the same, if they are one by one, and as many.
func TestSameAll(t *testing.T) {
	a, b, c := mk("a"), hunk("a", 0, nil, []string{"x"}), hunk("a", 0, []string{}, []string{"x"})
	for _, r := range []struct {
		l, m []api.Prim
		want bool
	}{
		{nil, nil, true},
		{nil, []api.Prim{}, true},
		{[]api.Prim{a}, []api.Prim{a}, true},
		{[]api.Prim{a, b}, []api.Prim{a, c}, true},
		{[]api.Prim{c, b}, []api.Prim{b, c}, true},
		{nil, []api.Prim{a}, false},
		{nil, []api.Prim{{}}, false},
		{[]api.Prim{a}, []api.Prim{b}, false},
		{[]api.Prim{a}, []api.Prim{a, a}, false},
		{[]api.Prim{a, b}, []api.Prim{a}, false},
		{[]api.Prim{a, b}, []api.Prim{b}, false},
		{[]api.Prim{a, b}, []api.Prim{b, a}, false},
		{[]api.Prim{a, b, a}, []api.Prim{a, b, b}, false},
	} {
		if prim.SameAll(r.l, r.m) != r.want || prim.SameAll(r.m, r.l) != r.want {
			t.Errorf("SameAll(%s, %s) = %v", told(r.l...), told(r.m...), !r.want)
		}
	}
}

// P7.1: a hunk's step has the path, and what the hunk has, whatever that is.
func TestHunk(t *testing.T) {
	for _, p := range []string{"a", "a/b", "", "A"} {
		for _, h := range []api.Hunk{
			{}, {At: 1, Old: []string{"b"}, New: []string{"x", "y"}}, {At: 0, New: []string{"x"}}, {At: 7, Old: []string{"", "\n"}}, {At: -1}, {At: math.MaxInt, Old: []string{}, New: []string{"x"}},
		} {
			got := prim.Hunk(p, h)
			if got.Kind != 6 || got.Path != p || got.To != "" || got.At != h.At || !slices.Equal(got.Old, h.Old) || !slices.Equal(got.New, h.New) {
				t.Errorf("Hunk(%q) = %s", p, told(got))
			}
		}
	}
}

// held holds what a call answered against what it is to answer: beside an error, the empty tree.
func held(t *testing.T, what string, got tree.Tree, e api.Errno, want model, wantE api.Errno) {
	t.Helper()
	if e != wantE || !want.is(got) {
		t.Errorf("%s = %d: %s; want %d: %v", what, e, shown(got.All()), wantE, want)
	}
}

// P7.2: what each kind of step does, and what is wrong, in the order of the chapter.
func TestApply(t *testing.T) {
	l := []api.File{dir("d"), file("d/f", "x", "y"), dir("e"), file("f", "x", "y", "z"), file("g")}
	of := must(t, l...)
	for _, c := range []struct {
		p    api.Prim
		want api.Errno
	}{
		{mk("h"), api.OK}, {mk("d/e"), api.OK}, {mk("e/e"), api.OK},
		{mk("d"), api.ErrTwice}, {mk("f"), api.ErrTwice}, {mk("d/f"), api.ErrTwice}, {mk("g/h"), api.ErrNone}, {mk("h/h"), api.ErrNone}, {mk("d/h/h"), api.ErrNone},
		{touch("h"), api.OK}, {touch("d/g"), api.OK}, {touch("e/e"), api.OK},
		{touch("d"), api.ErrTwice}, {touch("f"), api.ErrTwice}, {touch("g"), api.ErrTwice}, {touch("g/h"), api.ErrNone}, {touch("h/h"), api.ErrNone},
		{rmdir("e"), api.OK},
		{rmdir("h"), api.ErrNone}, {rmdir("f/h"), api.ErrNone}, {rmdir("f"), api.ErrDir}, {rmdir("g"), api.ErrDir}, {rmdir("d/f"), api.ErrDir}, {rmdir("d"), api.ErrFull},
		{rm("g"), api.OK},
		{rm("h"), api.ErrNone}, {rm("g/h"), api.ErrNone}, {rm("d"), api.ErrDir}, {rm("e"), api.ErrDir}, {rm("f"), api.ErrClash}, {rm("d/f"), api.ErrClash},
		{mv("f", "h"), api.OK}, {mv("f", "e/f"), api.OK}, {mv("d/f", "e/g"), api.OK}, {mv("g", "d/g"), api.OK},
		{mv("h", "i"), api.ErrNone}, {mv("h", "g"), api.ErrNone}, {mv("d", "h"), api.ErrDir}, {mv("d", "g"), api.ErrDir}, {mv("d", "d/g"), api.ErrDir},
		{mv("f", "g"), api.ErrTwice}, {mv("f", "d"), api.ErrTwice}, {mv("f", "h/h"), api.ErrNone}, {mv("f", "g/h"), api.ErrNone}, {mv("f", "f/h"), api.ErrNone},
		{hunk("f", 0, []string{"x"}, nil), api.OK}, {hunk("f", 0, []string{"x", "y", "z"}, nil), api.OK}, {hunk("f", 1, []string{"y"}, []string{"v", "w"}), api.OK},
		{hunk("f", 0, nil, []string{"w"}), api.OK}, {hunk("f", 3, nil, []string{"w"}), api.OK}, {hunk("f", 2, []string{"z"}, []string{"z"}), api.OK},
		{hunk("d/f", 1, []string{"y"}, nil), api.OK}, {hunk("g", 0, nil, []string{"x", ""}), api.OK},
		{hunk("h", 0, []string{"x"}, nil), api.ErrNone}, {hunk("f/h", 0, nil, []string{"x"}), api.ErrNone},
		{hunk("d", 0, nil, []string{"x"}), api.ErrDir}, {hunk("e", 7, []string{"x"}, nil), api.ErrDir},
		{hunk("f", 1, []string{"x"}, nil), api.ErrClash}, {hunk("f", 0, []string{"x", "z"}, nil), api.ErrClash}, {hunk("f", 2, []string{"z", "z"}, nil), api.ErrClash},
		{hunk("f", 4, nil, []string{"w"}), api.ErrClash}, {hunk("f", 3, []string{"z"}, nil), api.ErrClash}, {hunk("g", 1, nil, []string{"x"}), api.ErrClash},
		{hunk("f", math.MaxInt, nil, []string{"w"}), api.ErrClash}, {hunk("f", math.MaxInt, []string{"x"}, nil), api.ErrClash}, {hunk("g", 0, []string{""}, nil), api.ErrClash},
	} {
		got, e := prim.Apply(of, c.p)
		if e != c.want {
			t.Errorf("Apply(%s) = %d, want %d", told(c.p), e, c.want)
		}
		want, wantE := modelOf(l).slowApply(c.p)
		held(t, "Apply "+told(c.p), got, e, want, wantE)
	}
	held(t, "the tree that all were done to", of, api.OK, modelOf(l), api.OK)
}

// wide are n files in the root.
func wide(n int) []api.File {
	var l []api.File
	for i := range n {
		l = append(l, file("p"+strconv.Itoa(i)))
	}
	return l
}

// P7.2: steps of a tree that has no more room, and of files that have none.
func TestApplyFull(t *testing.T) {
	l := append(wide(496), dir("d"), dir("e"), file("f", many(2000, "x")...), file("g", many(1999, "x")...))
	of := must(t, l...)
	one := []string{"x"}
	for _, c := range []struct {
		p    api.Prim
		want api.Errno
	}{
		{mk("h"), api.ErrBig}, {touch("h"), api.ErrBig}, {touch("d/h"), api.ErrBig}, {mk("d/h"), api.ErrBig},
		{mk("h/h"), api.ErrNone}, {touch("h/h"), api.ErrNone}, {touch("d"), api.ErrTwice}, {mk("f"), api.ErrTwice},
		{rmdir("d"), api.OK}, {rm("p0"), api.OK}, {mv("f", "h"), api.OK}, {mv("p7", "d/h"), api.OK},
		{hunk("p7", 0, nil, many(2000, "y")), api.OK}, {hunk("f", 0, many(2000, "x"), many(2000, "y")), api.OK}, {hunk("f", 1999, one, nil), api.OK},
		{hunk("f", 2000, nil, one), api.ErrBig}, {hunk("f", 0, nil, one), api.ErrBig}, {hunk("f", 7, one, []string{"y", "z"}), api.ErrBig},
		{hunk("g", 1999, nil, one), api.OK}, {hunk("g", 0, nil, []string{"x", "x"}), api.ErrBig}, {hunk("g", 0, one, many(2000, "")), api.ErrBig},
		{hunk("f", 2001, nil, one), api.ErrClash}, {hunk("f", 0, []string{"y"}, []string{"x", "x"}), api.ErrClash}, {hunk("g", 1999, one, many(2000, "")), api.ErrClash},
	} {
		got, e := prim.Apply(of, c.p)
		if e != c.want {
			t.Errorf("Apply(%s) = %d, want %d", told(c.p), e, c.want)
		}
		want, wantE := modelOf(l).slowApply(c.p)
		held(t, "Apply "+told(c.p), got, e, want, wantE)
	}
}

// places are the paths that small trees, and steps, are made of.
func places() []string { return []string{"a", "a/a", "b"} }

// steps are all steps at these paths, of few lines.
func steps() []api.Prim {
	parts := [][]string{nil, {"x"}, {"y"}, {"x", "y"}}
	var l []api.Prim
	for _, p := range append(places(), "a/a/a") {
		l = append(l, mk(p), rmdir(p), touch(p), rm(p))
		for _, to := range places() {
			l = append(l, mv(p, to))
		}
		for i := range len(parts) * len(parts) {
			for at := range 3 {
				l = append(l, hunk(p, at, parts[i/len(parts)], parts[i%len(parts)]))
			}
		}
	}
	return l
}

// trees are all trees that have something at these paths only, with few lines.
func trees() [][]api.File {
	all := [][]api.File{nil}
	for _, p := range places() {
		for _, l := range slices.Clone(all) {
			if up := slowDir(p); up == "" || modelOf(l)[up].Dir {
				for _, f := range []api.File{dir(p), file(p), file(p, "x"), file(p, "y", "x"), file(p, "x", "y", "x")} {
					all = append(all, append(slices.Clone(l), f))
				}
			}
		}
	}
	return all
}

// P7.2, P7.4: each step of each small tree, against the words; what was done is taken back by what Invert tells.
func TestEachStep(t *testing.T) {
	all := steps()
	done := map[int]int{}
	for _, l := range trees() {
		of := must(t, l...)
		for _, p := range all {
			got, e := prim.Apply(of, p)
			want, wantE := modelOf(l).slowApply(p)
			held(t, "Apply "+told(p)+" of "+shown(l), got, e, want, wantE)
			if e != api.OK {
				continue
			}
			done[p.Kind]++
			if back, e := prim.Apply(got, prim.Invert(p)); e != api.OK || !tree.Same(back, of) {
				t.Errorf("%s behind %s of %s = %d: %s", told(prim.Invert(p)), told(p), shown(l), e, shown(back.All()))
			}
		}
	}
	for kind := 1; kind <= 6; kind++ {
		if done[kind] == 0 {
			t.Errorf("no step of kind %d was done", kind)
		}
	}
}

// P7.3, P7.4: each row of up to three of some steps, against the words; what was done is taken back by what Back tells.
func TestEachRow(t *testing.T) {
	some := []api.Prim{
		mk("a"), rmdir("a"), touch("a/f"), rm("a/f"), touch("b"), mv("b", "a/f"), mv("a/f", "b"), hunk("b", 0, nil, []string{"x", "y"}), hunk("b", 1, []string{"y"}, []string{"z"}), hunk("a/f", 0, []string{"x"}, nil), mk("/"), hunk("b", 0, nil, nil),
	}
	rows := [][]api.Prim{nil}
	for i := 0; i < len(rows); i++ {
		if len(rows[i]) < 3 {
			for _, p := range some {
				rows = append(rows, append(slices.Clone(rows[i]), p))
			}
		}
	}
	for _, l := range [][]api.File{nil, {dir("a")}, {file("b", "x")}, {dir("a"), file("b", "x", "y")}, {dir("a"), file("a/f", "x", "x")}} {
		of := must(t, l...)
		for _, row := range rows {
			want, wantE := modelOf(l), api.OK
			for _, p := range row {
				if wantE == api.OK {
					want, wantE = want.slowApply(p)
				}
			}
			got, e := prim.All(of, row...)
			held(t, "All "+told(row...)+" of "+shown(l), got, e, want, wantE)
			if e != api.OK {
				continue
			}
			if back, e := prim.All(got, prim.Back(row...)...); e != api.OK || !tree.Same(back, of) {
				t.Errorf("%s behind %s of %s = %d: %s", told(prim.Back(row...)...), told(row...), shown(l), e, shown(back.All()))
			}
		}
	}
}

// P7.3: no steps, many steps, and the first error of several.
func TestAll(t *testing.T) {
	of := must(t, file("a", "x"))
	if got, e := prim.All(of); e != api.OK || !tree.Same(got, of) {
		t.Errorf("All of no steps = %d: %s", e, shown(got.All()))
	}
	var l []api.Prim
	for i := range 2000 {
		l = append(l, hunk("a", i+1, nil, []string{strconv.Itoa(i)}))
	}
	got, e := prim.All(of, l[:1999]...)
	if f, _ := got.Get("a"); e != api.OK || len(f.Lines) != 2000 || f.Lines[1999] != "1998" {
		t.Errorf("All of 1999 steps = %d: %s", e, shown(got.All()))
	}
	got, e = prim.All(of, l...)
	held(t, "All of 2000 steps", got, e, nil, api.ErrBig)
	for _, c := range []struct {
		l    []api.Prim
		want api.Errno
	}{
		{[]api.Prim{mk("b"), mk("b"), mk("A")}, api.ErrTwice},
		{[]api.Prim{mk("A"), mk("a")}, api.ErrPath},
		{[]api.Prim{mk("a"), mk("A")}, api.ErrTwice},
		{[]api.Prim{rm("a"), hunk("a", 0, []string{"x"}, nil), rm("a")}, api.ErrClash},
		{[]api.Prim{hunk("a", 0, []string{"x"}, nil), rm("a"), rm("a")}, api.ErrNone},
		{[]api.Prim{touch("b/c"), mk("b")}, api.ErrNone},
		{[]api.Prim{mk("b"), touch("b/c"), rmdir("b")}, api.ErrFull},
		{[]api.Prim{mk("b"), {}}, api.ErrArg},
	} {
		got, e := prim.All(of, c.l...)
		held(t, "All "+told(c.l...), got, e, nil, c.want)
	}
}

// P7.4: what takes each kind of step back.
func TestInvert(t *testing.T) {
	x, vw := []string{"x"}, []string{"v", "w"}
	for _, c := range []struct{ p, want api.Prim }{
		{mk("a"), rmdir("a")}, {rmdir("a/b"), mk("a/b")}, {touch("a"), rm("a")}, {rm("a/b"), touch("a/b")},
		{mv("a", "b/c"), mv("b/c", "a")},
		{hunk("a", 1, []string{"b"}, x), hunk("a", 1, x, []string{"b"})},
		{hunk("a/b", 0, vw, nil), hunk("a/b", 0, nil, vw)}, {hunk("a", math.MaxInt, []string{}, vw), hunk("a", math.MaxInt, vw, nil)}, {hunk("a", 2, x, x), hunk("a", 2, x, x)},
		{mv("A", "A"), mv("A", "A")}, {hunk("", -1, nil, nil), hunk("", -1, nil, nil)},
	} {
		if got := prim.Invert(c.p); !prim.Same(got, c.want) {
			t.Errorf("Invert(%s) = %s, want %s", told(c.p), told(got), told(c.want))
		}
		if got := prim.Invert(prim.Invert(c.p)); !prim.Same(got, c.p) {
			t.Errorf("Invert of Invert(%s) = %s", told(c.p), told(got))
		}
	}
}

// R1, R2: what Invert tells has no part that its kind has not, even of a step that may not be.
func TestInvertWrong(t *testing.T) {
	for _, p := range mixed() {
		got := prim.Invert(p)
		if got.Kind < 1 || got.Kind > 6 {
			if p.Kind >= 1 && p.Kind <= 6 || !prim.Same(got, api.Prim{}) {
				t.Errorf("Invert(%s) = %s", told(p), told(got))
			}
			continue
		}
		if prim.Check(got) == api.ErrArg {
			t.Errorf("Invert(%s) = %s", told(p), told(got))
		}
		if prim.Check(p) == api.OK && prim.Check(got) != api.OK {
			t.Errorf("Invert(%s) = %s, that may not be", told(p), told(got))
		}
	}
}

// P7.4: Back tells Invert of each, in the other order.
func TestBack(t *testing.T) {
	for _, c := range []struct{ l, want []api.Prim }{
		{nil, nil},
		{[]api.Prim{mk("a")}, []api.Prim{rmdir("a")}},
		{[]api.Prim{mk("a"), touch("a/b"), hunk("a/b", 0, nil, []string{"x"}), mv("a/b", "c")}, []api.Prim{mv("c", "a/b"), hunk("a/b", 0, []string{"x"}, nil), rm("a/b"), rmdir("a")}},
		{[]api.Prim{rm("a"), rm("a"), touch("a")}, []api.Prim{rm("a"), touch("a"), touch("a")}},
	} {
		if got := prim.Back(c.l...); !prim.SameAll(got, c.want) {
			t.Errorf("Back(%s) = %s, want %s", told(c.l...), told(got...), told(c.want...))
		}
	}
}

// spoil changes all that a list of lines has, and its spare room.
func spoil(l []string) {
	for i := range l[:cap(l)] {
		l[:cap(l)][i] = "changed"
	}
}

// R3: what is handed in stays as it is, its spare room too, and is not kept.
func TestHandedIn(t *testing.T) {
	begin := []string{"x", "y", "z", "spare", "room"}
	old, new := slices.Clone(begin), slices.Clone(begin)
	row := []api.Prim{hunk("a", 0, old[:1], new[:3]), hunk("a", 3, nil, old[1:2]), touch("spare"), touch("room")}
	kept := slices.Clone(row)
	of := must(t, file("a", "x"))
	one, e1 := prim.Apply(of, row[0])
	all, e2 := prim.All(of, row[:2]...)
	step, inverse, back := prim.Hunk("a", api.Hunk{Old: old[:1], New: new[:3]}), prim.Invert(row[0]), prim.Back(row[:2]...)
	prim.Check(row[0])
	prim.SameAll(row[:2], kept)
	if e1 != api.OK || e2 != api.OK || !prim.SameAll(row, kept) || !slices.Equal(old, begin) || !slices.Equal(new, begin) {
		t.Errorf("what was handed in became %s, %q, %q", told(row...), old, new)
	}
	spoil(old)
	spoil(new)
	clear(row)
	held(t, "Apply", one, api.OK, model{"a": file("a", "x", "y", "z")}, api.OK)
	held(t, "All", all, api.OK, model{"a": file("a", "x", "y", "z", "y")}, api.OK)
	held(t, "the tree that both were done to", of, api.OK, model{"a": file("a", "x")}, api.OK)
	for _, got := range [][]api.Prim{{step}, {prim.Invert(inverse)}, {prim.Invert(back[1])}} {
		if !prim.SameAll(got, []api.Prim{hunk("a", 0, []string{"x"}, []string{"x", "y", "z"})}) {
			t.Errorf("what was answered became %s", told(got...))
		}
	}
}

// R3: no two lists of what is answered share memory.
func TestAnswered(t *testing.T) {
	both := []string{"x", "y"}
	p := hunk("a", 0, both[:1], both[1:])
	for _, q := range []api.Prim{prim.Hunk("a", api.Hunk{Old: both[:1], New: both}), prim.Invert(hunk("a", 0, both, both[:1]))} {
		spoil(q.Old)
		if !slices.Equal(q.New, both) {
			t.Errorf("the lists of one step share memory: %s", told(q))
		}
	}
	back := prim.Back(p, p)
	spoil(back[0].Old)
	spoil(back[0].New)
	if !prim.Same(back[1], hunk("a", 0, []string{"y"}, []string{"x"})) || !slices.Equal(both, []string{"x", "y"}) {
		t.Errorf("the steps of one answer share memory: %s", told(back...))
	}
	of := must(t, file("a", "x"), file("b", "x"))
	got, _ := prim.Apply(of, p)
	for _, f := range got.All() {
		spoil(f.Lines)
	}
	held(t, "Apply", got, api.OK, model{"a": file("a", "y"), "b": file("b", "x")}, api.OK)
	held(t, "the tree that it was done to", of, api.OK, model{"a": file("a", "x"), "b": file("b", "x")}, api.OK)
}
