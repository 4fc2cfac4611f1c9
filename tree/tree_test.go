package tree_test

import (
	"maps"
	"slices"
	"strconv"
	"strings"
	"testing"

	"rafter/api"
	"rafter/lines"
	"rafter/path"
	"rafter/tree"
)

// model is what a tree is to hold, by its paths; the slow calls do with it what the chapter's words say.
type model map[string]api.File

// slowDir tells in which path a path lies.
func slowDir(p string) string { return p[:max(strings.LastIndex(p, "/"), 0)] }

// slowLess goes by a slash that is ahead of all that a name may have.
func slowLess(a, b string) bool {
	if !path.Right(a) || !path.Right(b) {
		return !path.Right(a) && (path.Right(b) || a < b)
	}
	return strings.ReplaceAll(a, "/", "\x00") < strings.ReplaceAll(b, "/", "\x00")
}

// slowSort lays paths in order.
func slowSort(l []string) []string {
	slices.SortFunc(l, func(a, b string) int {
		if slowLess(a, b) {
			return -1
		}
		return 1
	})
	return l
}

// paths tells a model's paths, in order.
func (m model) paths() []string { return slowSort(slices.Collect(maps.Keys(m))) }

// list tells all that a model has, in order.
func (m model) list() []api.File {
	var l []api.File
	for _, p := range m.paths() {
		l = append(l, m[p])
	}
	return l
}

// holds tells whether a path lies in the root, or in a directory.
func (m model) holds(p string) bool { return slowDir(p) == "" || m[slowDir(p)].Dir }

// in tells what lies in a directory.
func (m model) in(dir string) []string {
	var l []string
	for _, p := range m.paths() {
		if slowDir(p) == dir {
			l = append(l, p)
		}
	}
	return l
}

// with answers a model with one more.
func (m model) with(f api.File) model {
	made := maps.Clone(m)
	made[f.Path] = f
	return made
}

// without answers a model with one less.
func (m model) without(p string) model {
	made := maps.Clone(m)
	delete(made, p)
	return made
}

// slowMkdir does as the words of P6.2 say.
func (m model) slowMkdir(p string) (model, api.Errno) {
	_, there := m[p]
	switch {
	case !path.Right(p):
		return nil, api.ErrPath
	case there:
		return nil, api.ErrTwice
	case !m.holds(p):
		return nil, api.ErrNone
	case len(m) == 500:
		return nil, api.ErrBig
	}
	return m.with(api.File{Path: p, Dir: true}), api.OK
}

// slowWrite does as the words of P6.2 say.
func (m model) slowWrite(p string, l []string) (model, api.Errno) {
	_, there := m[p]
	switch {
	case !path.Right(p):
		return nil, api.ErrPath
	case m[p].Dir:
		return nil, api.ErrDir
	case lines.Check(l) != api.OK:
		return nil, lines.Check(l)
	case !there && !m.holds(p):
		return nil, api.ErrNone
	case !there && len(m) == 500:
		return nil, api.ErrBig
	}
	return m.with(api.File{Path: p, Lines: l}), api.OK
}

// slowRemove does as the words of P6.2 say.
func (m model) slowRemove(p string) (model, api.Errno) {
	_, there := m[p]
	switch {
	case !path.Right(p):
		return nil, api.ErrPath
	case !there:
		return nil, api.ErrNone
	case len(m.in(p)) > 0:
		return nil, api.ErrFull
	}
	return m.without(p), api.OK
}

// slowMove does as the words of P6.3 say.
func (m model) slowMove(from, to string) (model, api.Errno) {
	f, there := m[from]
	_, taken := m[to]
	switch {
	case !path.Right(from) || !path.Right(to):
		return nil, api.ErrPath
	case !there:
		return nil, api.ErrNone
	case f.Dir:
		return nil, api.ErrDir
	case taken:
		return nil, api.ErrTwice
	case !m.holds(to):
		return nil, api.ErrNone
	}
	f.Path = to
	return m.without(from).with(f), api.OK
}

// slowWrong asks of one of a list, in the order of the words of P6.1, what is wrong about it.
func slowWrong(f api.File, l []api.File) api.Errno {
	twice, held := -1, slowDir(f.Path) == ""
	for _, g := range l {
		if g.Path == f.Path {
			twice++
		}
		held = held || g.Dir && g.Path == slowDir(f.Path)
	}
	switch {
	case !path.Right(f.Path):
		return api.ErrPath
	case twice > 0:
		return api.ErrTwice
	case !held:
		return api.ErrNone
	case lines.Check(f.Lines) != api.OK:
		return lines.Check(f.Lines)
	case f.Dir && len(f.Lines) > 0:
		return api.ErrForm
	}
	return api.OK
}

// slowOf asks each of a list, and tells what is wrong about the first one in order.
func slowOf(l []api.File) (model, api.Errno) {
	m, first, wrong := model{}, "", api.OK
	for _, f := range l {
		m[f.Path] = f
		e := slowWrong(f, l)
		if e != api.OK && (wrong == api.OK || slowLess(f.Path, first)) {
			first, wrong = f.Path, e
		}
	}
	if len(l) > 500 {
		wrong = api.ErrBig
	}
	if wrong != api.OK {
		return nil, wrong
	}
	return m, api.OK
}

// same holds lists of files against each other, other than package tree does.
func same(a, b []api.File) bool {
	return slices.EqualFunc(a, b, func(f, g api.File) bool {
		return f.Path == g.Path && f.Dir == g.Dir && slices.Equal(f.Lines, g.Lines)
	})
}

// told tells files in few words; of many lines, how many there are.
func told(l []api.File) string {
	var s strings.Builder
	for _, f := range l {
		s.WriteString(" " + strconv.Quote(f.Path))
		if f.Dir {
			s.WriteString("/")
		}
		if len(f.Lines) > 3 {
			s.WriteString("=" + strconv.Itoa(len(f.Lines)) + " lines")
		} else if len(f.Lines) > 0 {
			s.WriteString("=" + strconv.Quote(strings.Join(f.Lines, "|")))
		}
	}
	return s.String()
}

// held holds what a call answered against what it is to answer: beside an error, the empty tree.
func held(t *testing.T, what string, got tree.Tree, e api.Errno, want model, wantE api.Errno) {
	t.Helper()
	if e != wantE || !same(got.All(), want.list()) {
		t.Errorf("%s = %d:%s; want %d:%s", what, e, told(got.All()), wantE, told(want.list()))
	}
}

// must makes a tree of files that may be one.
func must(t *testing.T, l ...api.File) tree.Tree {
	t.Helper()
	made, e := tree.Of(l...)
	if e != api.OK {
		t.Fatalf("Of%s = %d", told(l), e)
	}
	return made
}

// dir is a directory, file a file.
func dir(p string) api.File                { return api.File{Path: p, Dir: true} }
func file(p string, l ...string) api.File  { return api.File{Path: p, Lines: l} }
func filled(p string, l []string) api.File { return api.File{Path: p, Dir: true, Lines: l} }

// many are n lines, each of which says the same.
func many(n int, line string) []string { return slices.Repeat([]string{line}, n) }

// row is a path of so many names.
func row(n int) string { return strings.Repeat("a/", n-1) + "a" }

// wide are n directories and files in the root: as many of both, or a file more.
func wide(n int) []api.File {
	var l []api.File
	for i := range n {
		l = append(l, api.File{Path: "p" + strconv.Itoa(i), Dir: i%2 == 1})
	}
	return l
}

// wrongPaths are texts that are no paths; the first one is the root.
func wrongPaths() []string {
	return []string{
		"", "/", "/a", "a/", "a//b", "/a/b", "a/b/", ".", "..", "./a", "a/..", "a/../a", "A", "a/B", "a b", "a\n", "é", "\xff", "\x00",
		row(17), strings.Repeat("a", 41), "a/" + strings.Repeat("a", 41), strings.Repeat("a", 201), strings.Repeat("abcdefghijkl/", 15) + "abcdef", strings.Repeat("a/", 1<<16) + "a",
	}
}

// P6.1: files that are a tree, in any order, and how they are listed.
func TestOf(t *testing.T) {
	for _, l := range [][]api.File{
		nil,
		{file("a")},
		{file("a", "")},
		{file("a", "x", "", "\ty")},
		{dir("a")},
		{filled("a", []string{})},
		{dir("a"), dir("a/a"), dir("a/a/a"), file("a/a/a/a", "x")},
		{dir("a"), file("a/-"), dir("a/b"), file("a/b/c"), file("a/c"), dir("a-b"), file("a-b/c"), file("a."), file("a.b"), file("a0"), file("aa"), file("b")},
		{file("-"), file("..."), file("0"), file("10"), file("2"), file("_"), file("a"), file("b", "x")},
	} {
		for turn := range max(len(l), 1) {
			mixed := slices.Concat(l[turn:], l[:turn])
			if turn%2 == 1 {
				slices.Reverse(mixed)
			}
			got, e := tree.Of(mixed...)
			if e != api.OK || !same(got.All(), l) {
				t.Errorf("Of%s = %d:%s", told(mixed), e, told(got.All()))
			}
		}
	}
}

// P6.1: what is wrong is asked of one path behind the other, in the order of path.Less, and of each in the order of the chapter.
func TestOfWrong(t *testing.T) {
	wrong, more := []string{"x", "\n"}, many(2001, "x")
	for _, c := range []struct {
		l    []api.File
		want api.Errno
	}{
		{[]api.File{file("")}, api.ErrPath},
		{[]api.File{dir("")}, api.ErrPath},
		{[]api.File{dir("a"), file("a/")}, api.ErrPath},
		{[]api.File{file("A"), file("A")}, api.ErrPath},
		{[]api.File{file("a", wrong...), file("a"), file("/")}, api.ErrPath},
		{[]api.File{file("", more...)}, api.ErrPath},
		{[]api.File{file("a"), file("a")}, api.ErrTwice},
		{[]api.File{dir("a"), dir("a")}, api.ErrTwice},
		{[]api.File{dir("a"), file("a", "x")}, api.ErrTwice},
		{[]api.File{file("a", "x"), dir("b"), file("b/c"), file("a", "y")}, api.ErrTwice},
		{[]api.File{file("a"), file("a"), file("a")}, api.ErrTwice},
		{[]api.File{file("x/a"), file("x/a")}, api.ErrTwice},
		{[]api.File{file("a", wrong...), file("a")}, api.ErrTwice},
		{[]api.File{file("a"), file("a", wrong...)}, api.ErrTwice},
		{[]api.File{file("a"), file("b/c"), file("a")}, api.ErrTwice},
		{[]api.File{file("b", wrong...), file("a"), file("a")}, api.ErrTwice},
		{[]api.File{file("a/b")}, api.ErrNone},
		{[]api.File{dir("a/b")}, api.ErrNone},
		{[]api.File{file("a"), file("a/b")}, api.ErrNone},
		{[]api.File{dir("a"), file("a/b/c")}, api.ErrNone},
		{[]api.File{dir("a/b"), file("a/b/c")}, api.ErrNone},
		{[]api.File{dir("b"), file("a/b"), dir("aa")}, api.ErrNone},
		{[]api.File{file("a/b", wrong...)}, api.ErrNone},
		{[]api.File{filled("a/b", more)}, api.ErrNone},
		{[]api.File{file("a/b"), file("c"), file("c")}, api.ErrNone},
		{[]api.File{file("a", wrong...)}, api.ErrForm},
		{[]api.File{file("a", "x", "\xff")}, api.ErrForm},
		{[]api.File{file("a", strings.Repeat("x", 201))}, api.ErrForm},
		{[]api.File{filled("a", []string{"x"})}, api.ErrForm},
		{[]api.File{filled("a", []string{""})}, api.ErrForm},
		{[]api.File{filled("a", many(2000, ""))}, api.ErrForm},
		{[]api.File{filled("a", wrong)}, api.ErrForm},
		{[]api.File{file("b/c"), filled("a", []string{"x"})}, api.ErrForm},
		{[]api.File{file("b"), file("b"), file("a", wrong...)}, api.ErrForm},
		{[]api.File{file("b", more...), file("a", wrong...)}, api.ErrForm},
		{[]api.File{file("a", more...)}, api.ErrBig},
		{[]api.File{filled("a", more)}, api.ErrBig},
		{[]api.File{file("a", many(2001, "\n")...)}, api.ErrBig},
		{[]api.File{file("a", more...), file("b", wrong...)}, api.ErrBig},
		{[]api.File{file("b"), file("a-b", wrong...), file("a/b", wrong...), dir("a"), filled("a/c", more)}, api.ErrForm},
	} {
		got, e := tree.Of(c.l...)
		held(t, "Of"+told(c.l), got, e, nil, c.want)
	}
	for _, p := range wrongPaths() {
		got, e := tree.Of(dir("a"), dir(p))
		held(t, "Of with a path that is none", got, e, nil, api.ErrPath)
	}
}

// eachList calls f with each list of up to n of these.
func eachList(n int, of []api.File, f func(l []api.File)) {
	all := [][]api.File{nil}
	for i := 0; i < len(all); i++ {
		f(all[i])
		for _, g := range of {
			if len(all[i]) < n {
				all = append(all, append(slices.Clone(all[i]), g))
			}
		}
	}
}

// P6.1: each short list of files, some of which may not be, against the words.
func TestOfEachList(t *testing.T) {
	wrong, more := []string{"\x00"}, many(2001, "")
	eachList(3, []api.File{
		dir("a"), file("a"), file("a", "x"), filled("a", []string{"x"}), file("a", wrong...),
		dir("a/b"), file("a/b", "x", "y"), file("a/b", more...), filled("a/b", wrong), filled("a/b", more),
		file("a/b/c"), file("a-b", wrong...), dir("a-b"), file("a-b/c"), file("a0", more...), dir("b"),
		file(""), dir("A"), file("a/", wrong...),
	}, func(l []api.File) {
		got, e := tree.Of(l...)
		want, wantE := slowOf(l)
		held(t, "Of"+told(l), got, e, want, wantE)
	})
}

// P6.1: how many there may be; more are told ahead of all else.
func TestOfMany(t *testing.T) {
	for _, n := range []int{499, 500} {
		l := wide(n)
		got, e := tree.Of(l...)
		if files, dirs := got.Size(); e != api.OK || files+dirs != n || files-dirs != n%2 {
			t.Errorf("Of %d = %d: %d files, %d directories", n, e, files, dirs)
		}
		l[7].Path = "\n"
		got, e = tree.Of(l...)
		held(t, "Of many with a path that is none", got, e, nil, api.ErrPath)
	}
	deep := []api.File{file("a/b/c"), file("A"), filled("x", []string{"\n"}), file("y", many(2001, "")...), file("p1")}
	for _, n := range []int{501, 502, 1000, 1 << 16} {
		l := wide(n)
		for i := range deep {
			got, e := tree.Of(append(l[:n-1:n-1], deep[i])...)
			held(t, "Of too many", got, e, nil, api.ErrBig)
		}
		got, e := tree.Of(l...)
		held(t, "Of too many", got, e, nil, api.ErrBig)
		got, e = tree.Of(slices.Repeat([]api.File{file("")}, n)...)
		held(t, "Of too many", got, e, nil, api.ErrBig)
	}
	got, e := tree.Of(slices.Repeat([]api.File{file("a")}, 500)...)
	held(t, "Of 500 of one path", got, e, nil, api.ErrTwice)
}

// P6.1: the looks at a tree, and at the empty one.
func TestLooks(t *testing.T) {
	l := []api.File{dir("a"), file("a/b", "x", "y"), dir("a/c"), file("a/c/d"), file("a-b", ""), file("b"), dir("c")}
	full := must(t, l...)
	if files, dirs := full.Size(); files != 4 || dirs != 3 {
		t.Errorf("Size = %d, %d", files, dirs)
	}
	for _, f := range l {
		if got, ok := full.Get(f.Path); !ok || !same([]api.File{got}, []api.File{f}) {
			t.Errorf("Get(%q) =%s, %v", f.Path, told([]api.File{got}), ok)
		}
	}
	for dir, want := range map[string][]string{
		"": {"a", "a-b", "b", "c"}, "a": {"a/b", "a/c"}, "a/c": {"a/c/d"},
		"a/b": nil, "a/c/d": nil, "b": nil, "c": nil, "d": nil, "a/": nil, "/": nil, "/a": nil, "a-": nil, ".": nil,
	} {
		if got := full.In(dir); !slices.Equal(got, want) {
			t.Errorf("In(%q) = %q, want %q", dir, got, want)
		}
	}
	for _, p := range append(wrongPaths(), "d", "a/d", "a/b/c", "b/a", "a/c/d/e", "a/a") {
		if got, ok := full.Get(p); ok || !same([]api.File{got}, make([]api.File, 1)) {
			t.Errorf("Get(%.50q) =%s, %v", p, told([]api.File{got}), ok)
		}
		if p != "" && len(full.In(p)) > 0 {
			t.Errorf("In(%.50q) = %q", p, full.In(p))
		}
		if _, ok := (tree.Tree{}).Get(p); ok || len(tree.Tree{}.In(p)) > 0 {
			t.Errorf("something is at %.50q, or in it, of the empty tree", p)
		}
	}
	if files, dirs := (tree.Tree{}).Size(); files != 0 || dirs != 0 || len(tree.Tree{}.All()) > 0 {
		t.Errorf("the empty tree has %d files, %d directories", files, dirs)
	}
	if made := must(t); !tree.Same(made, tree.Tree{}) {
		t.Error("Of nothing is not the empty tree")
	}
}

// P6.1: trees that are the same, and trees that are nearly so.
func TestSame(t *testing.T) {
	l := []api.File{dir("a"), file("a/b", "x", "y"), file("b"), dir("c")}
	full := must(t, l...)
	if !tree.Same(full, must(t, l[3], l[2], l[1], l[0])) {
		t.Error("the same files in another order are another tree")
	}
	empty := slices.Clone(l)
	for i := range empty {
		empty[i].Lines = append([]string{}, empty[i].Lines...)
	}
	if !tree.Same(full, must(t, empty...)) {
		t.Error("an empty list of lines is other than none")
	}
	for _, other := range [][]api.File{
		nil,
		l[:3],
		l[:1],
		{dir("a"), file("a/b", "x", "y"), file("b"), file("c")},
		{dir("a"), file("a/b", "x", "y"), file("b"), dir("d")},
		{dir("a"), file("a/b", "x", "y"), file("b", ""), dir("c")},
		{dir("a"), file("a/b", "x"), file("b"), dir("c")},
		{dir("a"), file("a/b", "x", "z"), file("b"), dir("c")},
		{dir("a"), file("a/b", "y", "x"), file("b"), dir("c")},
		{dir("a"), file("a/b", "x", "y", ""), file("b"), dir("c")},
		{dir("a"), file("a/b", "x", "y"), file("b"), dir("c"), dir("d")},
	} {
		made := must(t, other...)
		if tree.Same(full, made) || tree.Same(made, full) || !tree.Same(made, made) {
			t.Errorf("Same of%s and%s", told(l), told(other))
		}
	}
}

// step is one call on a tree.
type step struct {
	kind, p, to string
	l           []string
}

// do does a step to a tree.
func (s step) do(t tree.Tree) (tree.Tree, api.Errno) {
	switch s.kind {
	case "Mkdir":
		return t.Mkdir(s.p)
	case "Write":
		return t.Write(s.p, s.l)
	case "Remove":
		return t.Remove(s.p)
	}
	return t.Move(s.p, s.to)
}

// slow does a step to a model.
func (s step) slow(m model) (model, api.Errno) {
	switch s.kind {
	case "Mkdir":
		return m.slowMkdir(s.p)
	case "Write":
		return m.slowWrite(s.p, s.l)
	case "Remove":
		return m.slowRemove(s.p)
	}
	return m.slowMove(s.p, s.to)
}

// few are paths that trees are made of, step by step; each other text is none, or has nothing.
func few() []string { return []string{"a", "a/a", "a/a/a", "a/b", "a-b", "b", "b/a"} }

// steps are all steps at these paths, and at some texts that are none.
func steps() []step {
	var l []step
	texts := append(few(), "", "a/", "A", "/b", row(17))
	for _, p := range texts {
		l = append(l, step{kind: "Mkdir", p: p}, step{kind: "Remove", p: p})
		for _, lines := range [][]string{nil, {"x"}, {"\n"}, many(2001, "")} {
			l = append(l, step{kind: "Write", p: p, l: lines})
		}
		for _, to := range texts {
			l = append(l, step{kind: "Move", p: p, to: to})
		}
	}
	return l
}

// grown is all trees that steps come to from the empty one, each with what it is to hold.
type grown struct {
	trees  []tree.Tree
	models []model
}

// grow does all steps to all trees that come up, and holds each answer against the words.
func grow(t *testing.T) grown {
	g := grown{[]tree.Tree{{}}, []model{{}}}
	seen := map[string]int{"": 0}
	all := steps()
	for i := 0; i < len(g.trees); i++ {
		for _, s := range all {
			got, e := s.do(g.trees[i])
			want, wantE := s.slow(g.models[i])
			held(t, s.kind+" "+s.p+" "+s.to+" "+told([]api.File{{Lines: s.l}})+" of"+told(g.models[i].list()), got, e, want, wantE)
			key := told(want.list())
			if _, ok := seen[key]; !ok && wantE == api.OK {
				seen[key] = len(g.trees)
				g.trees, g.models = append(g.trees, got), append(g.models, want)
			}
		}
		if t.Failed() {
			t.Fatalf("with the tree%s", told(g.models[i].list()))
		}
	}
	return g
}

// P6.2, P6.3, R2, R3, R4: each step of each tree that has few paths, against the words; no step changes the tree that it is done to, nor another one.
func TestEachStep(t *testing.T) {
	g := grow(t)
	if len(g.trees) != 868 {
		t.Errorf("%d trees came up", len(g.trees))
	}
	for i, m := range g.models {
		held(t, "a tree behind all steps", g.trees[i], api.OK, m, api.OK)
	}
}

// P6.1: the looks at each tree that has few paths.
func TestLooksOfEachTree(t *testing.T) {
	g := grow(t)
	for i, m := range g.models {
		made := g.trees[i]
		for _, p := range append(few(), "", "c", "a/c", "a/", "/", "A") {
			got, ok := made.Get(p)
			if want, there := m[p]; ok != there || !same([]api.File{got}, []api.File{want}) {
				t.Errorf("Get(%q) of%s =%s, %v", p, told(m.list()), told([]api.File{got}), ok)
			}
			if got := made.In(p); !slices.Equal(got, m.in(p)) {
				t.Errorf("In(%q) of%s = %q", p, told(m.list()), got)
			}
		}
		dirs := 0
		for _, f := range m {
			if f.Dir {
				dirs++
			}
		}
		if files, got := made.Size(); files != len(m)-dirs || got != dirs {
			t.Errorf("Size of%s = %d, %d", told(m.list()), files, got)
		}
		back := m.list()
		slices.Reverse(back)
		if again := must(t, back...); !tree.Same(made, again) || !tree.Same(again, made) {
			t.Errorf("Of%s is another tree:%s", told(back), told(again.All()))
		}
		for j, other := range g.trees {
			if tree.Same(made, other) != (i == j) {
				t.Errorf("Same of%s and%s", told(m.list()), told(g.models[j].list()))
			}
		}
	}
}

// P6.2, P6.3: which error is told first, where several apply.
func TestFirstError(t *testing.T) {
	small := must(t, dir("a"), file("a/x"), file("f"))
	full := must(t, append(wide(498), dir("d"), file("f"))...)
	wrong, more := []string{"\n"}, many(2001, "")
	for _, c := range []struct {
		t    tree.Tree
		s    step
		want api.Errno
	}{
		{full, step{kind: "Mkdir", p: "A"}, api.ErrPath},
		{full, step{kind: "Mkdir", p: ""}, api.ErrPath},
		{full, step{kind: "Mkdir", p: "f"}, api.ErrTwice},
		{full, step{kind: "Mkdir", p: "d"}, api.ErrTwice},
		{full, step{kind: "Mkdir", p: "x/y"}, api.ErrNone},
		{full, step{kind: "Mkdir", p: "f/y"}, api.ErrNone},
		{full, step{kind: "Mkdir", p: "d/y"}, api.ErrBig},
		{full, step{kind: "Mkdir", p: "x"}, api.ErrBig},
		{full, step{kind: "Write", p: "/x", l: more}, api.ErrPath},
		{full, step{kind: "Write", p: "", l: wrong}, api.ErrPath},
		{full, step{kind: "Write", p: "d", l: more}, api.ErrDir},
		{full, step{kind: "Write", p: "d", l: wrong}, api.ErrDir},
		{full, step{kind: "Write", p: "d"}, api.ErrDir},
		{full, step{kind: "Write", p: "f", l: wrong}, api.ErrForm},
		{full, step{kind: "Write", p: "f", l: more}, api.ErrBig},
		{full, step{kind: "Write", p: "x", l: wrong}, api.ErrForm},
		{full, step{kind: "Write", p: "x/y", l: wrong}, api.ErrForm},
		{small, step{kind: "Write", p: "x/y", l: more}, api.ErrBig},
		{small, step{kind: "Write", p: "f/y", l: wrong}, api.ErrForm},
		{full, step{kind: "Write", p: "x/y"}, api.ErrNone},
		{full, step{kind: "Write", p: "f/y"}, api.ErrNone},
		{full, step{kind: "Write", p: "x"}, api.ErrBig},
		{full, step{kind: "Write", p: "d/y"}, api.ErrBig},
		{small, step{kind: "Remove", p: ""}, api.ErrPath},
		{small, step{kind: "Remove", p: "a/"}, api.ErrPath},
		{small, step{kind: "Remove", p: "x"}, api.ErrNone},
		{small, step{kind: "Remove", p: "x/y"}, api.ErrNone},
		{small, step{kind: "Remove", p: "a"}, api.ErrFull},
		{small, step{kind: "Move", p: "", to: "x"}, api.ErrPath},
		{small, step{kind: "Move", p: "x", to: ""}, api.ErrPath},
		{small, step{kind: "Move", p: "a", to: "A"}, api.ErrPath},
		{small, step{kind: "Move", p: "x", to: "f"}, api.ErrNone},
		{small, step{kind: "Move", p: "x", to: "x"}, api.ErrNone},
		{small, step{kind: "Move", p: "a", to: "f"}, api.ErrDir},
		{small, step{kind: "Move", p: "a", to: "a"}, api.ErrDir},
		{small, step{kind: "Move", p: "a", to: "a/y"}, api.ErrDir},
		{small, step{kind: "Move", p: "f", to: "f"}, api.ErrTwice},
		{small, step{kind: "Move", p: "f", to: "a"}, api.ErrTwice},
		{small, step{kind: "Move", p: "f", to: "a/x"}, api.ErrTwice},
		{small, step{kind: "Move", p: "f", to: "x/y"}, api.ErrNone},
		{small, step{kind: "Move", p: "f", to: "f/y"}, api.ErrNone},
		{small, step{kind: "Move", p: "f", to: "a/x/y"}, api.ErrNone},
	} {
		got, e := c.s.do(c.t)
		held(t, c.s.kind+" "+c.s.p+" "+c.s.to, got, e, nil, c.want)
	}
	for _, p := range wrongPaths() {
		for _, s := range []step{{kind: "Mkdir", p: p}, {kind: "Write", p: p}, {kind: "Remove", p: p}, {kind: "Move", p: p, to: "x"}, {kind: "Move", p: "f", to: p}} {
			got, e := s.do(small)
			held(t, s.kind+" with a path that is none", got, e, nil, api.ErrPath)
		}
	}
}

// P6.2, P6.3: in a tree that has no more room, what is there may be written, moved and removed; then there is room for one.
func TestFull(t *testing.T) {
	l := append(wide(498), dir("d"), file("f"))
	m, _ := slowOf(l)
	full := must(t, l...)
	for _, s := range []step{
		{kind: "Write", p: "f", l: []string{"x"}},
		{kind: "Write", p: "p0"},
		{kind: "Move", p: "f", to: "d/f"},
		{kind: "Move", p: "f", to: "a"},
		{kind: "Move", p: "p0", to: "z"},
		{kind: "Remove", p: "f"},
		{kind: "Remove", p: "d"},
	} {
		got, e := s.do(full)
		want, _ := s.slow(m)
		held(t, s.kind+" of a full tree", got, e, want, api.OK)
	}
	room, _ := full.Remove("p0")
	for _, s := range []step{{kind: "Mkdir", p: "x"}, {kind: "Write", p: "d/x", l: []string{"x"}}} {
		got, e := s.do(room)
		want, _ := s.slow(m.without("p0"))
		held(t, s.kind+" of 499", got, e, want, api.OK)
		if again, e := got.Mkdir("y"); e != api.ErrBig {
			t.Errorf("Mkdir of 500 = %d:%s", e, told(again.All()))
		}
	}
}

// P6.2: from nothing to 500, one by one, and back again.
func TestGrowToFull(t *testing.T) {
	var made tree.Tree
	var e api.Errno
	l := wide(500)
	for i, f := range l {
		if f.Dir {
			made, e = made.Mkdir(f.Path)
		} else {
			made, e = made.Write(f.Path, f.Lines)
		}
		if files, dirs := made.Size(); e != api.OK || files+dirs != i+1 {
			t.Fatalf("the tree of %d has %d and %d, and says %d", i+1, files, dirs, e)
		}
	}
	if !tree.Same(made, must(t, l...)) {
		t.Error("what is made one by one is another tree")
	}
	for _, f := range l {
		if made, e = made.Remove(f.Path); e != api.OK {
			t.Fatalf("Remove(%q) = %d", f.Path, e)
		}
	}
	if !tree.Same(made, tree.Tree{}) {
		t.Error("what is left of all is not the empty tree")
	}
}

// P6.2, P6.3: directories as deep as paths may be, and lines as many as there may be.
func TestEdges(t *testing.T) {
	var deep tree.Tree
	var e api.Errno
	for n := 1; n <= 15; n++ {
		if deep, e = deep.Mkdir(row(n)); e != api.OK {
			t.Fatalf("Mkdir of %d names = %d", n, e)
		}
	}
	great := many(2000, strings.Repeat("x", 200))
	deep, e = deep.Write(row(16), great)
	if f, ok := deep.Get(row(16)); e != api.OK || !ok || !slices.Equal(f.Lines, great) {
		t.Errorf("Write of 16 names, and 2000 lines = %d", e)
	}
	deep, e = deep.Move(row(16), "b")
	if f, ok := deep.Get("b"); e != api.OK || !ok || f.Path != "b" || f.Dir || !slices.Equal(f.Lines, great) {
		t.Errorf("Move of a great file = %d", e)
	}
	if got := deep.In(row(15)); len(got) > 0 {
		t.Errorf("a file that moved away still lies in its directory: %q", got)
	}
	for n := 15; n >= 2; n-- {
		if _, e := deep.Remove(row(n - 1)); e != api.ErrFull {
			t.Errorf("Remove of a directory with one in it = %d", e)
		}
		if deep, e = deep.Remove(row(n)); e != api.OK {
			t.Fatalf("Remove of %d names = %d", n, e)
		}
	}
	if deep, e = deep.Write("b", nil); e != api.OK || !same(deep.All(), []api.File{dir("a"), file("b")}) {
		t.Errorf("Write of no lines in the place of many = %d:%s", e, told(deep.All()))
	}
}

// R3: what is handed in stays as it is, its spare room too, and is not kept.
func TestHandedIn(t *testing.T) {
	begin := []string{"x", "y", "spare", "room"}
	text := slices.Clone(begin)
	l := []api.File{file("b", text[:2]...), file("a/c", text[:1]...), dir("a"), file("spare"), file("room")}
	kept := slices.Clone(l)
	made := must(t, l[:3]...)
	made, e := made.Write("c", text[:2])
	if e != api.OK || !same(l, kept) || !slices.Equal(text, begin) {
		t.Errorf("what was handed in became%s, %q", told(l), text)
	}
	for i := range text {
		text[i] = "changed"
	}
	for i := range l {
		l[i] = file("changed")
	}
	if want := []api.File{dir("a"), file("a/c", "x"), file("b", "x", "y"), file("c", "x", "y")}; !same(made.All(), want) {
		t.Errorf("the tree became%s", told(made.All()))
	}
}

// spoil changes all that a list of lines has, and its spare room.
func spoil(l []string) {
	for i := range l[:cap(l)] {
		l[:cap(l)][i] = "changed"
	}
}

// R3: what is answered is new memory, and no two lists of one answer share any.
func TestAnswered(t *testing.T) {
	want := []api.File{dir("a"), file("a/b", "x", "y"), file("b", "x", "y"), file("c", "z")}
	made := must(t, want...)
	moved, _ := made.Move("c", "a/c")
	written, _ := made.Write("d", []string{"w"})
	for range 2 {
		f, _ := made.Get("b")
		spoil(f.Lines)
		spoil(made.In(""))
		spoil(made.In("a"))
		for _, of := range []tree.Tree{moved, written, made} {
			all := of.All()
			before := of.All()
			for i := range all {
				spoil(all[i].Lines)
				if !same(all[i+1:], before[i+1:]) {
					t.Fatalf("files of one answer share lines:%s", told(all))
				}
			}
			clear(all[:cap(all)])
		}
		if got := made.In("a"); !same(made.All(), want) || !slices.Equal(got, []string{"a/b"}) {
			t.Fatalf("the tree became%s", told(made.All()))
		}
	}
	if !same(moved.All(), []api.File{dir("a"), file("a/b", "x", "y"), file("a/c", "z"), file("b", "x", "y")}) || !same(written.All(), append(slices.Clone(want), file("d", "w"))) {
		t.Errorf("trees made of it became%s, and%s", told(moved.All()), told(written.All()))
	}
}

// R4: trees that are made of one tree do not change each other, nor it.
func TestBranches(t *testing.T) {
	l := []api.File{file("b", "x"), file("d"), file("f")}
	base, e := must(t, l...).Write("h", nil)
	l = append(l, file("h"))
	var made []tree.Tree
	all := []step{
		{kind: "Write", p: "i"}, {kind: "Mkdir", p: "j"}, {kind: "Write", p: "a"}, {kind: "Mkdir", p: "e"}, {kind: "Write", p: "b", l: []string{"y"}},
		{kind: "Remove", p: "b"}, {kind: "Remove", p: "h"}, {kind: "Move", p: "b", to: "z"}, {kind: "Move", p: "h", to: "a"}, {kind: "Move", p: "f", to: "c"},
	}
	for _, s := range all {
		next, e := s.do(base)
		if e != api.OK {
			t.Errorf("%s %s = %d", s.kind, s.p, e)
		}
		made = append(made, next)
	}
	m, _ := slowOf(l)
	held(t, "the tree that all were made of", base, e, m, api.OK)
	for i, s := range all {
		want, _ := s.slow(m)
		held(t, s.kind+" "+s.p, made[i], api.OK, want, api.OK)
	}
}
