package patch_test

import (
	"fmt"
	"math"
	"slices"
	"strconv"
	"strings"
	"testing"

	"rafter/api"
	"rafter/code"
	"rafter/ident"
	"rafter/op"
	"rafter/patch"
)

// id is an id of a patch.
func id(patch string, n int) api.Id { return api.Id{Patch: patch, N: n} }

// ids is a list of ids.
func ids(l ...api.Id) []api.Id { return l }

// texts is a list of texts.
func texts(l ...string) []string { return l }

// ops is a list of operations.
func ops(l ...api.Op) []api.Op { return l }

// The ids that no patch made.
var root, begin, end = id("", 0), id("", 1), id("", 2)

// dir, file, gone, move and hunk are operations, one of each kind.
func dir(self, parent api.Id, name string) api.Op {
	return api.Op{Kind: 1, Self: self, Parent: parent, Name: name}
}
func file(self, parent api.Id, name string) api.Op {
	return api.Op{Kind: 2, Self: self, Parent: parent, Name: name}
}
func gone(self, parent api.Id, name string) api.Op {
	return api.Op{Kind: 3, Self: self, Parent: parent, Name: name}
}
func move(self, parent, to api.Id) api.Op {
	return api.Op{Kind: 4, Self: self, Parent: parent, Name: "x", To: to, ToName: "y"}
}
func hunk(self, left, right api.Id, dels []api.Id, first int, lines ...string) api.Op {
	return api.Op{Kind: 5, Self: self, Left: left, Right: right, Dels: dels, First: first, Lines: lines}
}

// named is a patch.
func named(name string, deps []string, ops ...api.Op) api.Patch {
	return api.Patch{Name: name, Deps: deps, Ops: ops}
}

// many are n lines, each of which says the same.
func many(n int, line string) []string { return slices.Repeat([]string{line}, n) }

// told tells a patch in few words.
func told(p api.Patch) string {
	s := fmt.Sprintf("%d deps, %d ops: %+v", len(p.Deps), len(p.Ops), p)
	return strconv.Quote(s[:min(len(s), 600)])
}

// isOp tells whether two operations have the same parts.
func isOp(a, b api.Op) bool {
	return a.Kind == b.Kind && a.Self == b.Self && a.Parent == b.Parent && a.To == b.To && a.Left == b.Left && a.Right == b.Right &&
		a.Name == b.Name && a.ToName == b.ToName && a.First == b.First && slices.Equal(a.Dels, b.Dels) && slices.Equal(a.Lines, b.Lines)
}

// is tells whether two patches have the same parts.
func is(a, b api.Patch) bool {
	return a.Name == b.Name && slices.Equal(a.Deps, b.Deps) && slices.EqualFunc(a.Ops, b.Ops, isOp)
}

// deep is a patch with the same parts, that shares no memory.
func deep(p api.Patch) api.Patch {
	c := named(p.Name, append(texts(), p.Deps...))
	for _, o := range p.Ops {
		o.Dels, o.Lines = append(ids(), o.Dels...), append(texts(), o.Lines...)
		c.Ops = append(c.Ops, o)
	}
	return c
}

// slowName tells whether a text is a name.
func slowName(s string) bool {
	return len(s) > 0 && len(s) <= 40 && s != "." && s != ".." && strings.Trim(s, "abcdefghijklmnopqrstuvwxyz0123456789._-") == ""
}

// slowOps does as the words of the chapter say: may a patch do this?
func slowOps(p api.Patch) bool {
	var made []api.Id
	for _, o := range p.Ops {
		if op.Check(o) != api.OK {
			return false
		}
		for _, x := range op.Comes(p.Name, o) {
			if x.Patch != p.Name || x.N > 1048576 || slices.Contains(made, x) {
				return false
			}
			made = append(made, x)
		}
		for _, x := range op.Ids(o) {
			if !slices.Contains(p.Deps, x.Patch) && !slices.Contains(made, x) {
				return false
			}
		}
	}
	return len(p.Ops) <= 2000
}

// slowCheck does as the words of the chapter say: may a patch be?
func slowCheck(p api.Patch) api.Errno {
	for _, s := range append(texts(p.Name), p.Deps...) {
		if !slowName(s) {
			return api.ErrName
		}
	}
	for i, s := range p.Deps {
		if s == p.Name || i > 0 && p.Deps[i-1] >= s {
			return api.ErrArg
		}
	}
	if !slowOps(p) {
		return api.ErrArg
	}
	return api.OK
}

// slowNum tells a number's bytes.
func slowNum(n int) string {
	if n < 128 {
		return string([]byte{byte(n)})
	}
	return string([]byte{byte(n%128 + 128)}) + slowNum(n/128)
}

// slowList tells a list's bytes.
func slowList(l []string) string {
	var s strings.Builder
	s.WriteString(slowNum(len(l)))
	for _, text := range l {
		s.WriteString(slowNum(len(text)) + text)
	}
	return s.String()
}

// slowPut tells the bytes of a patch, that may not be, too; those of an operation that may not be are none.
func slowPut(p api.Patch) string {
	var l []string
	for _, o := range p.Ops {
		s, _ := op.Put(o)
		l = append(l, s)
	}
	return slowNum(len(p.Name)) + p.Name + slowList(p.Deps) + slowList(l)
}

// slowGet reads as the words of the chapter say.
func slowGet(s string) (api.Patch, api.Errno) {
	if len(s) > 1048576 {
		return api.Patch{}, api.ErrBig
	}
	r := code.Read(s)
	p := named(r.Text(), r.List())
	l := r.List()
	if r.Err() != api.OK {
		return api.Patch{}, r.Err()
	}
	for _, text := range l {
		o, e := op.Get(text)
		if e != api.OK {
			return api.Patch{}, api.ErrForm
		}
		p.Ops = append(p.Ops, o)
	}
	if r.Left() > 0 || slowCheck(p) != api.OK {
		return api.Patch{}, api.ErrForm
	}
	return p, api.OK
}

// rightOne looks whether a patch that may be is told so, laid as its bytes, and comes back.
func rightOne(t *testing.T, p api.Patch) {
	t.Helper()
	if e := patch.Check(p); e != api.OK {
		t.Errorf("Check of %s = %d", told(p), e)
	}
	want := slowPut(p)
	if s, e := patch.Put(p); s != want || e != api.OK {
		t.Errorf("Put of %s = %.200q %d, want %.200q", told(p), s, e, want)
	}
	if got, e := patch.Get(want); e != api.OK || !is(got, p) {
		t.Errorf("Get of the bytes of %s = %s %d", told(p), told(got), e)
	}
	if !patch.Same(p, deep(p)) {
		t.Errorf("%s is not the same as itself", told(p))
	}
}

// wrongOne looks whether a patch that may not be is told so, has no bytes, and none are read as it.
func wrongOne(t *testing.T, p api.Patch, want api.Errno) {
	t.Helper()
	if e := patch.Check(p); e != want {
		t.Errorf("Check of %s = %d, want %d", told(p), e, want)
	}
	if s, e := patch.Put(p); s != "" || e != want {
		t.Errorf("Put of %s = %.200q %d, want %d", told(p), s, e, want)
	}
	if got, e := patch.Get(slowPut(p)); e != api.ErrForm || !is(got, api.Patch{}) {
		t.Errorf("Get of the bytes that %s would have = %s %d, want %d", told(p), told(got), e, api.ErrForm)
	}
}

// one looks at a patch, whether it may be or not.
func one(t *testing.T, p api.Patch) {
	t.Helper()
	if e := slowCheck(p); e != api.OK {
		wrongOne(t, p, e)
	} else {
		rightOne(t, p)
	}
}

// numbered are the names of n patches, rising.
func numbered(n int) []string {
	var l []string
	for i := range n {
		l = append(l, "p"+strconv.Itoa(1000000+i))
	}
	return l
}

// files are n files that a patch makes in the root.
func files(patch string, n int) []api.Op {
	var l []api.Op
	for i := range n {
		l = append(l, file(id(patch, i), root, "x"))
	}
	return l
}

// bases are patches that may be.
func bases() []api.Patch {
	a, b, z := id("a", 0), id("b", 3), id("z", 1)
	return []api.Patch{
		named("b", nil),
		named("c", texts("a", "b")),
		named("b", texts("a"), gone(a, root, "x")),
		named("a", nil, dir(a, root, "x"), file(id("a", 1), a, "y"), hunk(id("a", 1), begin, end, nil, 300, "x", "", "z"), hunk(id("a", 1), id("a", 300), id("a", 302), ids(id("a", 301)), 2, "w")),
		named("c", texts("a", "b", "z"), move(a, root, b), hunk(z, b, id("b", 4), ids(a, id("z", 0)), 7, "x"), file(id("c", 0), b, "f"), hunk(id("c", 0), begin, end, nil, 1, "l", "l")),
	}
}

// P13.1, P13.2, P13.4: patches that may be, at the edges that the chapter names.
func TestRight(t *testing.T) {
	a, long := id("a", 0), strings.Repeat("z", 40)
	for _, p := range append(bases(),
		named("a", texts(), ops()...), named(long, texts("zzz.", long[1:])), named("...", texts("-", ".-", "0", "_", "a")), named("b", texts("a", "a-", "a.b", "a_", "aa", "c")),
		named("b", numbered(5000), gone(id("p1004999", 1), root, "x"), gone(id("p1000000", 1), root, "x")),
		named("a", nil, files("a", 2000)...), named(long, nil, file(id(long, 1<<20), root, long)),
		// No word of the chapter is against what lies within itself, or against a line that comes behind itself, ahead of itself, or goes as it comes.
		named("a", nil, dir(a, a, "x")), named("a", nil, file(a, root, "x"), hunk(a, id("a", 5), end, nil, 5, "x")), named("a", nil, file(a, root, "x"), hunk(a, begin, id("a", 6), ids(id("a", 5)), 5, "x", "y")), named("a", nil, file(a, root, "x"), hunk(a, begin, end, nil, 5, "x"), hunk(a, begin, end, ids(id("a", 5)), 5)),
		named("a", nil, file(a, root, "x"), move(a, root, a), gone(a, root, "y"), gone(a, root, "y")),
		named("a", nil, file(a, root, "x"), hunk(a, begin, end, nil, 1<<20, "x")), named("a", nil, file(a, root, "x"), hunk(a, begin, end, nil, 1<<20-1999, many(2000, "")...)),
		named("b", texts("a"), hunk(a, begin, end, ident.Row("a", 1, 2000), 1<<20), hunk(a, begin, end, ids(id("a", 1<<20)), 1<<20)),
		named("a", nil, file(a, root, "x"), hunk(a, begin, end, nil, 10, "x", "x"), hunk(a, begin, end, nil, 12, "x"), hunk(a, begin, end, nil, 8, "x", "x"), dir(id("a", 7), root, "d")),
	) {
		if e := slowCheck(p); e != api.OK {
			t.Errorf("the words say %d of %s", e, told(p))
		}
		rightOne(t, p)
	}
}

// P13.1: a name that is none is told ahead of all else that is wrong.
func TestErrName(t *testing.T) {
	a := id("a", 0)
	for _, s := range texts("", "A", ".", "..", "a/b", "a#", "a b", "a\n", "\x00", "é", "\xff", strings.Repeat("a", 41)) {
		wrongOne(t, named(s, nil), api.ErrName)
		wrongOne(t, named(s, texts("a", "b")), api.ErrName)
		wrongOne(t, named("b", texts(s)), api.ErrName)
		wrongOne(t, named("b", texts("a", "c", s)), api.ErrName)
		wrongOne(t, named("b", texts(s, "a", "c")), api.ErrName)
		wrongOne(t, named(s, texts("b", "a", s), gone(a, root, "")), api.ErrName)
		wrongOne(t, named("b", texts("b", "b", s, "a"), files("a", 2001)...), api.ErrName)
		wrongOne(t, named(s, nil, file(id(s, 0), root, "x")), api.ErrName)
	}
	wrongOne(t, api.Patch{}, api.ErrName)
}

// P13.1: what a patch hangs on is rising, each once, without itself.
func TestDeps(t *testing.T) {
	for _, l := range [][]string{
		texts("b"), texts("a", "b"), texts("b", "c"), texts("a", "b", "c"), texts("c", "a"), texts("a", "a"), texts("a", "c", "c"), texts("a", "a", "c"), texts("a", "d", "c"), texts("d", "a", "c"), texts("aa", "a"), texts("a.", "a-"), texts("a_", "a0"), texts("a", "c", "a"),
		append(numbered(3000), "a"), append(numbered(3000), "p1002999"), append(texts("b"), numbered(3000)...),
	} {
		wrongOne(t, named("b", l), api.ErrArg)
		wrongOne(t, named("b", l, file(id("b", 0), root, "x")), api.ErrArg)
	}
}

// P13.1: operations that may not be, wherever they stand, and too many of them.
func TestOps(t *testing.T) {
	a := id("a", 0)
	for _, o := range ops(api.Op{}, api.Op{Kind: 6, Self: a}, api.Op{Kind: -1}, file(a, root, "F"), gone(a, begin, "x"), hunk(a, begin, begin, nil, 5, "x"), hunk(a, begin, end, nil, 5), hunk(a, begin, end, nil, 5, "\n"), hunk(a, begin, end, nil, math.MaxInt, "x"), hunk(a, begin, end, nil, math.MinInt, "x"), hunk(a, begin, end, nil, 5, many(2001, "")...)) {
		wrongOne(t, named("b", texts("a"), o), api.ErrArg)
		wrongOne(t, named("a", nil, file(a, root, "x"), o), api.ErrArg)
		wrongOne(t, named("b", texts("a"), gone(a, root, "x"), o, gone(a, root, "x")), api.ErrArg)
		wrongOne(t, named("a", nil, append(files("a", 1999), o)...), api.ErrArg)
	}
	rightOne(t, named("b", texts("a"), slices.Repeat(ops(gone(a, root, "x")), 2000)...))
	wrongOne(t, named("b", texts("a"), slices.Repeat(ops(gone(a, root, "x")), 2001)...), api.ErrArg)
	wrongOne(t, named("a", nil, files("a", 2001)...), api.ErrArg)
}

// P13.1: what is made is of the patch, each once, with numbers up to 2^20.
func TestMakes(t *testing.T) {
	a, x := id("a", 0), file(id("a", 0), root, "x")
	for _, l := range [][]api.Op{
		ops(file(id("b", 0), root, "x")), ops(dir(id("b", 0), root, "x")), ops(x, file(id("b", 1), root, "y")), ops(file(id("aa", 0), root, "x")), ops(file(id("c", 0), root, "x")),
		ops(x, x), ops(x, dir(a, root, "y")), ops(x, dir(id("a", 1), root, "y"), x), ops(x, hunk(a, begin, end, nil, 0, "x")), ops(x, hunk(a, begin, end, nil, 1, "x"), dir(id("a", 1), root, "d")),
		ops(x, hunk(a, begin, end, nil, 1, "x", "y"), hunk(a, begin, end, nil, 2, "x")), ops(x, hunk(a, begin, end, nil, 2, "x", "y"), hunk(a, begin, end, nil, 1, "x", "y")), ops(x, hunk(a, begin, end, nil, 5, "x", "y", "z"), hunk(a, begin, end, nil, 6, "x")), ops(x, hunk(a, begin, end, nil, 6, "x"), hunk(a, begin, end, nil, 5, "x", "y", "z")),
		ops(x, hunk(a, begin, end, nil, 1<<20, "x", "y")), ops(x, hunk(a, begin, end, nil, 1<<20-1998, many(2000, "")...)), ops(x, hunk(a, begin, end, nil, 1<<20+1, "x")), ops(file(id("a", 1<<20+1), root, "x")), ops(file(id("a", -1), root, "x")),
	} {
		p := named("a", texts("b"), l...)
		if slowCheck(p) != api.ErrArg {
			t.Errorf("the words say that %s may be", told(p))
		}
		wrongOne(t, p, api.ErrArg)
	}
}

// P13.1: what is named is of a patch that this one hangs on, or made ahead, or by the same operation.
func TestNames(t *testing.T) {
	a, x := id("a", 0), file(id("a", 0), root, "x")
	at := func(dir api.Id) api.Op { return file(id("a", 9), dir, "y") }
	for _, l := range [][]api.Op{
		ops(gone(a, root, "x")), ops(gone(a, root, "x"), x), ops(at(a), x), ops(x, at(id("a", 1))), ops(x, at(id("a", 10))), ops(x, at(id("c", 0))), ops(x, at(id("aa", 0))), ops(x, at(id("bb", 0))), ops(x, at(id("b.", 0))), ops(at(id("0", 0))),
		ops(x, gone(a, id("c", 0), "x")), ops(x, gone(id("c", 0), root, "x")), ops(move(a, root, root)), ops(x, move(a, id("c", 0), root)), ops(x, move(a, root, id("c", 0))), ops(x, move(a, id("b", 0), id("a", 1))),
		ops(hunk(a, begin, end, nil, 1, "x"), x), ops(hunk(id("c", 0), begin, end, nil, 1, "x")), ops(x, hunk(a, id("c", 0), end, nil, 1, "x")), ops(x, hunk(a, begin, id("c", 0), nil, 1, "x")), ops(x, hunk(a, begin, end, ids(id("c", 0)), 1, "x")), ops(x, hunk(a, begin, end, ids(id("b", 0), id("b", 1), id("c", 0)), 1)),
		ops(x, hunk(a, id("a", 2), end, nil, 1, "x")), ops(x, hunk(a, id("a", 2), end, nil, 1, "x"), hunk(a, begin, end, nil, 2, "x")), ops(x, hunk(a, begin, end, ids(id("a", 1)), 1)), ops(x, hunk(id("a", 1), begin, end, nil, 2, "x"), file(id("a", 1), root, "y")),
	} {
		p := named("a", texts("b", "d"), l...)
		if slowCheck(p) != api.ErrArg {
			t.Errorf("the words say that %s may be", told(p))
		}
		wrongOne(t, p, api.ErrArg)
		p.Deps = texts("0", "aa", "b", "b.", "bb", "c", "d")
		one(t, p)
	}
	rightOne(t, named("a", texts("b", "d"), x, at(id("b", 1<<20)), gone(id("d", 5), a, "x")))
}

// pool are operations that go together in some patches, and do not in others.
func pool() []api.Op {
	a, b, c := id("a", 0), id("b", 0), id("c", 0)
	return ops(
		dir(a, root, "x"), dir(b, a, "x"), file(a, b, "x"), file(b, root, "x"), file(id("a", 1), c, "x"), file(id("b", 1), b, "x"), file(c, c, "x"), gone(a, root, "x"), gone(b, a, "x"), gone(id("b", 1), c, "x"),
		move(a, root, b), move(id("a", 1), b, root), hunk(a, begin, end, nil, 0, "x"), hunk(a, begin, end, nil, 1, "x", "y"), hunk(b, id("b", 1), end, nil, 2, "z"), hunk(b, begin, id("a", 2), ids(a), 1), hunk(b, begin, end, ids(id("b", 1), id("b", 2)), 1<<20, "x"),
		hunk(b, begin, end, nil, 1<<20, "x", "y"), hunk(id("b", 1), a, c, nil, 3, ""), api.Op{}, file(a, root, "X"),
	)
}

// P13.1 to P13.4: each row of up to three operations, in patches of several names, that hang on several others, against the words.
func TestEachRow(t *testing.T) {
	rows := [][]api.Op{nil}
	for from := 0; len(rows[from]) < 3; from++ {
		for _, o := range pool() {
			rows = append(rows, append(slices.Clip(rows[from]), o))
		}
	}
	may := 0
	for _, row := range rows {
		for _, deps := range [][]string{nil, {"a"}, {"b"}, {"a", "c"}, {"b", "c"}, {"c", "b"}} {
			for _, s := range texts("a", "b") {
				p := named(s, deps, row...)
				one(t, p)
				if slowCheck(p) == api.OK {
					may++
				}
			}
		}
		if t.Failed() {
			return
		}
	}
	if may < 1000 {
		t.Errorf("only %d of these may be", may)
	}
}

// P13.1: the bytes of patches, letter by letter.
func TestPut(t *testing.T) {
	a := id("a", 0)
	for _, c := range []struct {
		p    api.Patch
		want string
	}{
		{named("b", nil), "\x01b" + "\x00" + "\x00"},
		{named("bc.d", texts("a", "bb")), "\x04bc.d" + "\x02\x01a\x02bb" + "\x00"},
		{named("b", texts("a"), gone(a, root, "x")), "\x01b" + "\x01\x01a" + "\x01" + "\x17" + "\x03\x00" + "\x03a#0" + "\x02#0\x02#0\x02#0\x02#0" + "\x01x\x00" + "\x00\x00"},
		{named("a", nil, file(a, root, "x"), hunk(a, begin, end, nil, 300, "y", "")), "\x01a" + "\x00" + "\x02" +
			"\x17" + "\x02\x00" + "\x03a#0" + "\x02#0\x02#0\x02#0\x02#0" + "\x01x\x00" + "\x00\x00" +
			"\x1a" + "\x05\xac\x02" + "\x03a#0" + "\x02#0\x02#0\x02#1\x02#2" + "\x00\x00" + "\x00" + "\x02\x01y\x00"},
	} {
		if s, e := patch.Put(c.p); s != c.want || e != api.OK {
			t.Errorf("Put of %s = %q %d, want %q", told(c.p), s, e, c.want)
		}
		if p, e := patch.Get(c.want); !is(p, c.p) || e != api.OK {
			t.Errorf("Get of %q = %s %d, want %s", c.want, told(p), e, told(c.p))
		}
	}
}

// sized is a patch that may be, that hangs on these, of just n bytes.
func sized(t *testing.T, n int, deps []string) api.Patch {
	t.Helper()
	a := id("a", 0)
	p := named("a", deps, file(a, root, "x"))
	p.Ops = append(p.Ops, slices.Repeat(ops(gone(a, root, "x")), 10)...)
	left := n - len(slowPut(p))
	for first := 1; left > 390; left = n - len(slowPut(p)) {
		l := many(min((left-100)/202, 2000), strings.Repeat("x", 200))
		p.Ops = append(p.Ops, hunk(a, begin, end, nil, first, l...))
		first += len(l)
	}
	// The rest is room for ten names to be longer by at most 39 bytes each.
	for i := range 10 {
		more := min(left, 39)
		p.Ops[i+1].Name += strings.Repeat("x", more)
		left -= more
	}
	if len(slowPut(p)) != n {
		t.Fatalf("%d bytes, not %d", len(slowPut(p)), n)
	}
	return p
}

// wrongBytes looks whether bytes are read as no patch, with this error.
func wrongBytes(t *testing.T, s string, want api.Errno) {
	t.Helper()
	if p, e := patch.Get(s); e != want || !is(p, api.Patch{}) {
		t.Errorf("Get of %d bytes, %.200q = %s %d, want %d", len(s), s, told(p), e, want)
	}
}

// P13.1, P13.2: patches of as many bytes as a text may have, and of more.
func TestBig(t *testing.T) {
	for _, deps := range [][]string{nil, texts("b"), numbered(1 << 20 / 10)} {
		rightOne(t, sized(t, 1<<20-1, deps))
		rightOne(t, sized(t, 1<<20, deps))
		for _, n := range []int{1<<20 + 1, 1<<20 + 2, 1<<20 + 300, 1 << 21} {
			p := sized(t, n, deps)
			if e := patch.Check(p); e != api.OK {
				t.Errorf("Check of %s = %d", told(p), e)
			}
			if s, e := patch.Put(p); s != "" || e != api.ErrBig {
				t.Errorf("Put of %d bytes = %.200q %d, want %d", n, s, e, api.ErrBig)
			}
			wrongBytes(t, slowPut(p), api.ErrBig)
		}
	}
	names := named("a", numbered(1<<20/9+1))
	if s, e := patch.Put(names); s != "" || e != api.ErrBig || patch.Check(names) != api.OK {
		t.Errorf("Put of names = %.200q %d, want %d", s, e, api.ErrBig)
	}
}

// P13.1, R2: a patch that may not be is told ahead of its bytes being too many.
func TestBigAndWrong(t *testing.T) {
	p := sized(t, 1<<21, texts("b"))
	p.Ops = append(p.Ops, gone(id("c", 0), root, "x"))
	if s, e := patch.Put(p); s != "" || e != api.ErrArg {
		t.Errorf("Put = %.200q %d, want %d", s, e, api.ErrArg)
	}
	p.Deps = texts("C")
	if s, e := patch.Put(p); s != "" || e != api.ErrName {
		t.Errorf("Put = %.200q %d, want %d", s, e, api.ErrName)
	}
}

// P13.1, R1: as many things as a patch may make, with each number once, and more lines than there is room for in a text, many times over.
func TestMost(t *testing.T) {
	a, line := id("a", 0), many(2000, strings.Repeat("x", 200))
	p := named("a", texts("b"), file(a, root, "x"))
	for first := 1; first <= 1<<20; first += 2000 {
		p.Ops = append(p.Ops, hunk(a, begin, end, nil, first, line[:min(2000, 1<<20+1-first)]...))
	}
	if e := patch.Check(p); e != api.OK {
		t.Errorf("Check of each number once = %d", e)
	}
	if s, e := patch.Put(p); s != "" || e != api.ErrBig {
		t.Errorf("Put of each number once = %.200q %d, want %d", s, e, api.ErrBig)
	}
	if l := patch.Made(p); len(l) != 1<<20+1 || !slices.IsSortedFunc(l, func(x, y api.Id) int { return x.N - y.N }) {
		t.Errorf("%d are made", len(l))
	}
	dels := named("a", texts("b"), file(a, root, "x"))
	dels.Ops = append(dels.Ops, slices.Repeat(ops(hunk(a, begin, end, ident.Row("b", 0, 2000), 0)), 1999)...)
	if e := patch.Check(dels); e != api.OK {
		t.Errorf("Check of many that go = %d", e)
	}
	if s, e := patch.Put(dels); s != "" || e != api.ErrBig {
		t.Errorf("Put of many that go = %.200q %d, want %d", s, e, api.ErrBig)
	}
	if l := patch.Named(dels); !slices.Equal(l, ident.Row("b", 0, 2000)) {
		t.Errorf("%d are named", len(l))
	}
	p.Ops = append(p.Ops, dir(id("a", 7), root, "d"))
	if e := patch.Check(p); e != api.ErrArg {
		t.Errorf("Check of one number twice = %d", e)
	}
}

// P13.2, R2: too many bytes are told ahead of what is wrong with them, and what is wrong in reading ahead of what is read.
func TestGetFirstError(t *testing.T) {
	for _, s := range texts("\x00", "\x01", "\x80", "\xff", "a") {
		wrongBytes(t, strings.Repeat(s, 1<<20+1), api.ErrBig)
		_, e := slowGet(strings.Repeat(s, 1<<20))
		wrongBytes(t, strings.Repeat(s, 1<<20), e)
	}
	wrongBytes(t, strings.Repeat("\xff", 1<<20), api.ErrShort)
	wrongBytes(t, "", api.ErrShort)
	wrongBytes(t, "\x00", api.ErrShort)
	wrongBytes(t, "\x01A\x00", api.ErrShort)
	wrongBytes(t, "\x01A\x01\x01A", api.ErrShort)
	wrongBytes(t, "\x01A\x00\x00", api.ErrForm)
	wrongBytes(t, "\x01b\x00\x01", api.ErrShort)
	wrongBytes(t, "\x01b\x02\x01a\x00", api.ErrShort)
	wrongBytes(t, "\x01b\x02\x01b\x01b\x01", api.ErrShort)
	wrongBytes(t, "\x01b\x00\x02\x03\xff\xff\xff", api.ErrShort)
	wrongBytes(t, "\x81\x00", api.ErrForm)
	wrongBytes(t, "\x81\x00\x80", api.ErrForm)
	wrongBytes(t, "\x81\x00b\x00\x00", api.ErrForm)
	wrongBytes(t, "\x01b\x80\x00\x00", api.ErrForm)
	wrongBytes(t, "\x01b\x80\x00", api.ErrForm)
	wrongBytes(t, "\x01b\x00\x80\x00", api.ErrForm)
	wrongBytes(t, "\x01b\x81\x00\x01a", api.ErrForm)
	wrongBytes(t, "\x01b\x00"+strings.Repeat("\xff", 9)+"\x02", api.ErrForm)
	wrongBytes(t, "\x01b\x00"+strings.Repeat("\xff", 9)+"\x01", api.ErrShort)
}

// P13.2: bytes that end, wherever, and bytes behind the end.
func TestGetCutOrLonger(t *testing.T) {
	for _, p := range bases() {
		s := slowPut(p)
		for n := range len(s) {
			wrongBytes(t, s[:n], api.ErrShort)
		}
		for _, more := range texts("\x00", "\x01", "\x80", "\xff", "a", s) {
			wrongBytes(t, s+more, api.ErrForm)
		}
	}
}

// P13.2: operations whose own bytes are none's, in bytes of a patch that do not end too early.
func TestGetWrongOps(t *testing.T) {
	a := id("a", 0)
	right, _ := op.Put(gone(a, root, "x"))
	own, _ := op.Put(gone(id("c", 0), root, "x"))
	of := func(l ...string) string { return "\x01b" + slowList(texts("a")) + slowList(l) }
	if p, e := patch.Get(of(right, right)); e != api.OK || !is(p, named("b", texts("a"), gone(a, root, "x"), gone(a, root, "x"))) {
		t.Fatalf("Get = %s %d", told(p), e)
	}
	wrong := texts("", "\x00", "\x03", "\x81\x00", right+"\x00", right+right, "\x06"+right[1:], "\x01"+right[1:], own)
	for n := range len(right) {
		wrong = append(wrong, right[:n])
	}
	for _, s := range wrong {
		wrongBytes(t, of(s), api.ErrForm)
		wrongBytes(t, of(right, s), api.ErrForm)
		wrongBytes(t, of(s, right), api.ErrForm)
		wrongBytes(t, of(right, s)+"\x00", api.ErrForm)
		wrongBytes(t, of(right, s)[:len(of(right, s))-1], api.ErrShort)
	}
	wrongBytes(t, of(slices.Repeat(texts(right), 2001)...), api.ErrForm)
	wrongBytes(t, of(make([]string, 1<<20-10)...), api.ErrForm)
	wrongBytes(t, "\x01b"+slowList(make([]string, 1<<20-10))+"\x00", api.ErrForm)
}

// P13.2, P13.4: a patch's bytes with each one changed, taken out, or doubled: either they are none's, or the very bytes of what they are read as.
func TestEachByte(t *testing.T) {
	read := 0
	try := func(s string) {
		want, wrong := slowGet(s)
		p, e := patch.Get(s)
		if e != wrong || !is(p, want) {
			t.Fatalf("Get of %q = %s %d, want %s %d", s, told(p), e, told(want), wrong)
		}
		if e != api.OK {
			return
		}
		read++
		if back, e := patch.Put(p); back != s || e != api.OK {
			t.Fatalf("%q is read as %s, which is laid as %q %d", s, told(p), back, e)
		}
	}
	for _, p := range bases() {
		s := slowPut(p)
		for i := range len(s) {
			for b := range 256 {
				try(s[:i] + string([]byte{byte(b)}) + s[i+1:])
			}
			try(s[:i] + s[i+1:])
			try(s[:i] + s[i:i+1] + s[i:])
		}
	}
	if read < 500 {
		t.Errorf("only %d are read", read)
	}
}

// P13.1: patches are the same just if all parts are, lists in their order; they may be or not.
func TestSame(t *testing.T) {
	a, b := id("a", 0), id("b", 0)
	var all []api.Patch
	for _, s := range texts("", "a", "b", "c") {
		for _, deps := range [][]string{nil, {}, {"a"}, {"b"}, {"a", "b"}, {"b", "a"}, {"a", "a"}, {""}} {
			for _, l := range [][]api.Op{nil, {}, {{}}, {gone(a, root, "x")}, {gone(a, root, "y")}, {gone(a, b, "x")}, {gone(b, root, "x")}, {dir(a, root, "x")}, {gone(a, root, "x"), gone(b, root, "x")}, {gone(b, root, "x"), gone(a, root, "x")}, {gone(a, root, "x"), gone(a, root, "x")},
				{move(a, root, root)}, {move(a, root, b)}, {hunk(a, begin, end, nil, 0, "x")}, {hunk(a, begin, end, ids(), 0, "x")}, {hunk(a, begin, end, nil, 1, "x")}, {hunk(a, begin, end, nil, 0, "x", "")}, {hunk(a, begin, end, ids(a, b), 0)}, {hunk(a, begin, end, ids(b, a), 0)}, {hunk(a, begin, b, nil, 0)}, {hunk(a, b, end, nil, 0)}} {
				all = append(all, named(s, deps, l...))
			}
		}
	}
	for _, p := range all {
		for _, q := range all {
			if patch.Same(p, q) != is(p, q) {
				t.Fatalf("Same of %s and %s = %v", told(p), told(q), !is(p, q))
			}
		}
		if !patch.Same(p, deep(p)) {
			t.Fatalf("%s is not the same as one of its own", told(p))
		}
	}
}

// P13.3: what a patch makes, in order, and what it names of others, as a set; it may be or not.
func TestMadeNamed(t *testing.T) {
	a, b, c := id("a", 4), id("b", 3), id("c", 0)
	for _, x := range []struct {
		p           api.Patch
		made, named []api.Id
	}{
		{named("a", nil), nil, nil}, {api.Patch{}, nil, nil}, {named("a", texts("b", "c")), nil, nil},
		{named("a", nil, file(a, root, "x")), ids(a), nil}, {named("a", texts("b"), dir(a, b, "x")), ids(a), ids(b)}, {named("a", nil, dir(a, a, "x")), ids(a), nil},
		{named("a", nil, file(a, root, "x"), hunk(a, begin, end, nil, 7, "x", "y"), dir(id("a", 1), root, "d"), hunk(a, id("a", 7), id("a", 8), nil, 2, "z")), ids(a, id("a", 7), id("a", 8), id("a", 1), id("a", 2)), nil},
		{named("a", texts("b", "c"), gone(c, b, "x"), gone(b, root, "x"), gone(c, root, "y")), nil, ids(b, c)}, {named("a", texts("b", "c"), move(c, b, id("b", 10)), move(b, root, id("b", 2))), nil, ids(id("b", 2), b, id("b", 10), c)},
		{named("d", texts("a", "b", "c"), hunk(c, a, b, ids(id("b", 9), id("a", 9)), 5, "x"), hunk(c, id("d", 5), end, ids(id("b", 9), id("a", 1)), 6)), ids(id("d", 5)), ids(id("a", 1), a, id("a", 9), b, id("b", 9), c)},
		{named("a", texts("b"), hunk(a, begin, end, ids(a, id("a", 5), b), 9, "x")), ids(id("a", 9)), ids(b)}, {named("b", texts("a"), hunk(a, id("b", 9), b, nil, 9, "x")), ids(id("b", 9)), ids(a)},
		{named("a", nil, dir(b, c, "x"), dir(b, a, "x")), ids(b, b), ids(c)}, {named("", nil, file(a, b, "X"), hunk(root, root, root, nil, 1, "x")), ids(a, begin), ids(b)}, {named("A", nil, hunk(id("A", 0), id("B", -1), end, ids(id("A", -1)), 1<<20, "x", "y")), ids(id("A", 1<<20), id("A", 1<<20+1)), ids(id("B", -1))},
		{named("a", nil, api.Op{Kind: 6, Self: b, Parent: c}, hunk(b, begin, end, nil, -1, "x")), nil, ids(b)},
	} {
		if got := patch.Made(x.p); !slices.Equal(got, x.made) {
			t.Errorf("Made of %s = %v, want %v", told(x.p), got, x.made)
		}
		if got := patch.Named(x.p); !slices.Equal(got, x.named) {
			t.Errorf("Named of %s = %v, want %v", told(x.p), got, x.named)
		}
	}
	dels := ident.Row("d", 0, 2000)
	slices.Reverse(dels)
	p := named("p", texts("a", "d", "e"), hunk(id("e", 0), begin, end, dels, 0), hunk(id("a", 0), begin, end, ident.Row("d", 1000, 2000), 0))
	if got := patch.Named(p); !slices.Equal(got, slices.Concat(ids(id("a", 0)), ident.Row("d", 0, 2000), ident.Row("d", 2000, 1000), ids(id("e", 0)))) {
		t.Errorf("Named tells %d", len(got))
	}
}

// spare is a patch with lists that have room behind their ends, and these lists with that room.
func spare() (api.Patch, []string, []api.Op, []api.Id, []string) {
	a := id("a", 0)
	deps, dels, lines := texts("b", "c", "spare", "spare"), ids(id("c", 1), id("b", 2), id("z", 1), id("z", 2)), texts("x", "y", "spare", "spare")
	all := ops(file(a, root, "x"), hunk(a, begin, end, dels[:2], 5, lines[:2]...), hunk(a, begin, end, dels[:2], 9, lines[:2]...), gone(id("z", 1), root, "x"), gone(id("z", 2), root, "x"))
	return named("a", deps[:2], all[:3]...), deps, all, dels, lines
}

// overwrite changes all of a patch's lists, with the room behind them.
func overwrite(p api.Patch) {
	for _, o := range p.Ops {
		for i := range o.Dels[:cap(o.Dels)] {
			o.Dels[:cap(o.Dels)][i] = id("changed", 0)
		}
		for i := range o.Lines[:cap(o.Lines)] {
			o.Lines[:cap(o.Lines)][i] = "changed"
		}
	}
	for i := range p.Ops[:cap(p.Ops)] {
		p.Ops[:cap(p.Ops)][i] = api.Op{Name: "changed"}
	}
	for i := range p.Deps[:cap(p.Deps)] {
		p.Deps[:cap(p.Deps)][i] = "changed"
	}
}

// P13.1: a copy is the same patch, whether it may be or not, and shares nothing with it, nor any two of its lists.
func TestCopy(t *testing.T) {
	for _, p := range append(bases(), api.Patch{}, named("A", texts("b", "a", "a"), api.Op{Kind: 77, Name: "X", Dels: ids(id("A", -1)), Lines: texts("\n")}, api.Op{First: -1, ToName: "y", To: begin, Left: end, Right: root})) {
		want := deep(p)
		c := patch.Copy(p)
		if !is(c, want) {
			t.Errorf("Copy of %s = %s", told(want), told(c))
		}
		overwrite(c)
		if !is(p, want) {
			t.Errorf("%s changed with its copy: %s", told(want), told(p))
		}
	}
	p, _, _, _, _ := spare()
	c, want := patch.Copy(p), deep(p)
	overwrite(p)
	if !is(c, want) {
		t.Errorf("a copy changed with what it is of: %s", told(c))
	}
	c.Ops[1].Dels[0], c.Ops[1].Lines[0] = root, "changed"
	if !isOp(c.Ops[2], want.Ops[2]) {
		t.Errorf("one operation of a copy changed with another one: %s", told(c))
	}
}

// P13.1 to P13.3, R3: what is handed in stays as it is, its spare room too, and what is told is new memory.
func TestMemory(t *testing.T) {
	p, deps, all, dels, lines := spare()
	first, _, firstAll, _, _ := spare()
	s, e := patch.Put(p)
	if e != api.OK || patch.Check(p) != api.OK || !patch.Same(p, first) {
		t.Fatalf("%s may not be", told(p))
	}
	for _, l := range [][]api.Id{patch.Made(p), patch.Named(p), patch.Named(named("x", nil, p.Ops...))} {
		for i := range l[:cap(l)] {
			l[:cap(l)][i] = id("changed", 0)
		}
	}
	overwrite(patch.Copy(p))
	if !is(p, first) || !slices.EqualFunc(all, firstAll, isOp) || deps[2] != "spare" || deps[3] != "spare" || lines[2] != "spare" || lines[3] != "spare" || dels[2] != id("z", 1) || dels[3] != id("z", 2) {
		t.Errorf("an argument changed: %s %v %v %v %v", told(p), deps, all, dels, lines)
	}
	one, _ := patch.Get(s)
	other, _ := patch.Get(s)
	one.Ops[1].Dels[0], one.Ops[1].Lines[0] = root, "changed"
	if !isOp(one.Ops[2], first.Ops[2]) {
		t.Errorf("one operation changed with another one: %s", told(one))
	}
	overwrite(one)
	overwrite(p)
	if third, e := patch.Get(s); !is(other, first) || !is(third, first) || e != api.OK {
		t.Errorf("a patch changed with another one: %s %s", told(other), told(third))
	}
}
