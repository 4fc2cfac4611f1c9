package op_test

import (
	"math"
	"slices"
	"strconv"
	"strings"
	"testing"
	"unicode/utf8"

	"rafter/api"
	"rafter/code"
	"rafter/ident"
	"rafter/op"
)

// id is an id of a patch.
func id(patch string, n int) api.Id { return api.Id{Patch: patch, N: n} }

// ids is a list of ids.
func ids(l ...api.Id) []api.Id { return l }

// texts is a list of texts.
func texts(l ...string) []string { return l }

// The ids that no patch made.
var root, begin, end = id("", 0), id("", 1), id("", 2)

// toldIds tells ids in few words, those that may not be, too.
func toldIds(l ...api.Id) string {
	var s strings.Builder
	for _, x := range l[:min(len(l), 6)] {
		s.WriteString(" " + strconv.Quote(x.Patch[:min(len(x.Patch), 50)]) + " " + strconv.Itoa(x.N))
	}
	return strconv.Itoa(len(l)) + ":" + s.String()
}

// told tells an operation in few words.
func told(o api.Op) string {
	few := o.Lines[:min(len(o.Lines), 6)]
	return "kind " + strconv.Itoa(o.Kind) + ", ids " + toldIds(o.Self, o.Parent, o.To, o.Left, o.Right) + ", names " + strconv.Quote(o.Name) + " " + strconv.Quote(o.ToName) +
		", dels " + toldIds(o.Dels...) + ", first " + strconv.Itoa(o.First) + ", lines " + strconv.Itoa(len(o.Lines)) + ": " + strconv.Quote(strings.Join(few, "|"))
}

// is tells whether two operations have the same parts.
func is(a, b api.Op) bool {
	return a.Kind == b.Kind && a.Self == b.Self && a.Parent == b.Parent && a.To == b.To && a.Left == b.Left && a.Right == b.Right &&
		a.Name == b.Name && a.ToName == b.ToName && a.First == b.First && slices.Equal(a.Dels, b.Dels) && slices.Equal(a.Lines, b.Lines)
}

// dir, file, gone, move and hunk are operations, one of each kind.
func dir(self, parent api.Id, name string) api.Op {
	return api.Op{Kind: 1, Self: self, Parent: parent, Name: name}
}
func file(self, parent api.Id, name string) api.Op {
	return api.Op{Kind: 2, Self: self, Parent: parent, Name: name}
}
func gone(self, parent api.Id, name string) api.Op {
	return api.Op{Kind: 3, Self: self, Parent: parent, Name: name}
}
func move(self, parent api.Id, name string, to api.Id, toName string) api.Op {
	return api.Op{Kind: 4, Self: self, Parent: parent, Name: name, To: to, ToName: toName}
}
func hunk(self, left, right api.Id, dels []api.Id, first int, lines ...string) api.Op {
	return api.Op{Kind: 5, Self: self, Left: left, Right: right, Dels: dels, First: first, Lines: lines}
}

// many are n lines, each of which says the same.
func many(n int, line string) []string { return slices.Repeat([]string{line}, n) }

// bases are operations that may be, of each kind.
func bases() []api.Op {
	a, b := id("a", 0), id("b", 7)
	return []api.Op{
		dir(a, root, "x"), dir(a, b, "x.y"), file(a, root, "x"), file(b, a, "0"), gone(a, root, "x"), gone(a, b, "x"),
		move(a, root, "x", root, "y"), move(a, root, "x", b, "x"), move(a, b, "x", root, "y"), move(a, b, "..."+"x", id("b", 8), "-"),
		hunk(a, begin, end, nil, 0, "x"), hunk(a, begin, end, ids(b), 0), hunk(a, b, end, ids(id("b", 8), id("c", 1)), 3, "x", "", "\ty"),
		hunk(a, begin, b, ids(id("a", 1), id("c", 1)), 1<<20), hunk(a, id("a", 1), id("a", 2), nil, 9, ""),
	}
}

// slowName tells whether a text is a name.
func slowName(s string) bool {
	return len(s) > 0 && len(s) <= 40 && s != "." && s != ".." && strings.Trim(s, "abcdefghijklmnopqrstuvwxyz0123456789._-") == ""
}

// slowMade tells whether an id may be that of something that a patch made.
func slowMade(x api.Id) bool { return slowName(x.Patch) && x.N >= 0 && x.N <= 1048576 }

// slowLine tells whether a text is a line.
func slowLine(s string) bool {
	below := func(r rune) bool { return r < 32 && r != '\t' }
	return len(s) <= 200 && utf8.ValidString(s) && !strings.ContainsFunc(s, below)
}

// parts tells the parts of each kind, by the letters of slowZero.
var parts = map[int]string{1: "PN", 2: "PN", 3: "PN", 4: "PNTM", 5: "LRDFX"}

// slowZero tells whether all parts are zero that are not among these.
func slowZero(o api.Op, have string) bool {
	zero := map[string]bool{
		"P": o.Parent == api.Id{}, "N": o.Name == "", "T": o.To == api.Id{}, "M": o.ToName == "",
		"L": o.Left == api.Id{}, "R": o.Right == api.Id{}, "D": len(o.Dels) == 0, "F": o.First == 0, "X": len(o.Lines) == 0,
	}
	for part, is := range zero {
		if !is && !strings.Contains(have, part) {
			return false
		}
	}
	return true
}

// slowHunk does as the words say of the parts of a hunk.
func slowHunk(o api.Op) bool {
	count := map[api.Id]int{o.Left: 1}
	count[o.Right]++
	for _, x := range o.Dels {
		count[x]++
		if !slowMade(x) {
			return false
		}
	}
	switch {
	case len(count) != len(o.Dels)+2, !slowMade(o.Left) && o.Left != begin, !slowMade(o.Right) && o.Right != end:
		return false
	case o.First < 0, o.First > 1048576, len(o.Dels) == 0 && len(o.Lines) == 0, len(o.Dels) > 2000, len(o.Lines) > 2000:
		return false
	}
	return !slices.ContainsFunc(o.Lines, func(s string) bool { return !slowLine(s) })
}

// slowMay does as the words of the chapter say: may an operation be?
func slowMay(o api.Op) bool {
	have, ok := parts[o.Kind]
	if !ok || !slowMade(o.Self) || !slowZero(o, have) {
		return false
	}
	if o.Kind == 5 {
		return slowHunk(o)
	}
	placed := slowName(o.Name) && (o.Parent == root || slowMade(o.Parent))
	if o.Kind != 4 {
		return placed
	}
	return placed && slowName(o.ToName) && (o.To == root || slowMade(o.To)) && (o.To != o.Parent || o.ToName != o.Name)
}

// slowNum tells a number's bytes.
func slowNum(n int) string {
	if n < 128 {
		return string([]byte{byte(n)})
	}
	return string([]byte{byte(n%128 + 128)}) + slowNum(n/128)
}

// slowText tells a text's bytes.
func slowText(s string) string { return slowNum(len(s)) + s }

// slowId tells an id's text, of whatever parts.
func slowId(x api.Id) string { return x.Patch + "#" + strconv.Itoa(x.N) }

// slowPut tells the bytes of an operation, that may not be, too, if no number of it is below 0.
func slowPut(o api.Op) string {
	var s strings.Builder
	s.WriteString(slowNum(o.Kind) + slowNum(o.First))
	for _, x := range ids(o.Self, o.Parent, o.To, o.Left, o.Right) {
		s.WriteString(slowText(slowId(x)))
	}
	s.WriteString(slowText(o.Name) + slowText(o.ToName) + slowNum(len(o.Dels)))
	for _, x := range o.Dels {
		s.WriteString(slowText(slowId(x)))
	}
	s.WriteString(slowNum(len(o.Lines)))
	for _, line := range o.Lines {
		s.WriteString(slowText(line))
	}
	return s.String()
}

// rightOne looks whether an operation that may be is told so, laid as its bytes, and comes back.
func rightOne(t *testing.T, o api.Op) {
	t.Helper()
	if e := op.Check(o); e != api.OK {
		t.Errorf("Check of %s = %d", told(o), e)
	}
	s, e := op.Put(o)
	if s != slowPut(o) || e != api.OK {
		t.Errorf("Put of %s = %.200q %d, want %.200q", told(o), s, e, slowPut(o))
	}
	if got, e := op.Get(slowPut(o)); e != api.OK || !is(got, o) {
		t.Errorf("Get of the bytes of %s = %s %d", told(o), told(got), e)
	}
	if !op.Same(o, o) {
		t.Errorf("%s is not the same as itself", told(o))
	}
}

// wrongOne looks whether an operation that may not be is told so, has no bytes, and none are read as it.
func wrongOne(t *testing.T, o api.Op) {
	t.Helper()
	if e := op.Check(o); e != api.ErrArg {
		t.Errorf("Check of %s = %d, want %d", told(o), e, api.ErrArg)
	}
	if s, e := op.Put(o); s != "" || e != api.ErrArg {
		t.Errorf("Put of %s = %.200q %d", told(o), s, e)
	}
	if o.Kind < 0 || o.First < 0 {
		return
	}
	if got, e := op.Get(slowPut(o)); e != api.ErrForm || !is(got, api.Op{}) {
		t.Errorf("Get of the bytes that %s would have = %s %d, want %d", told(o), told(got), e, api.ErrForm)
	}
}

// one looks at an operation, whether it may be or not.
func one(t *testing.T, o api.Op) {
	t.Helper()
	if slowMay(o) {
		rightOne(t, o)
	} else {
		wrongOne(t, o)
	}
}

// P12.1, P12.2, P12.4: operations that may be, of each kind, and at the edges that the chapter names.
func TestRight(t *testing.T) {
	a, b, z := id("a", 0), id("b", 3), id(strings.Repeat("z", 40), 1<<20)
	long := strings.Repeat("x", 40)
	dels, back := ident.Row("d", 0, 2000), ident.Row("d", 0, 2000)
	slices.Reverse(back)
	great := many(2000, strings.Repeat("é", 100))
	for _, o := range append(bases(),
		dir(z, z, long), file(z, id("b", 1<<20), "..."), gone(z, b, long), move(z, root, long, z, long), move(z, z, long, z, long[1:]),
		// No word of the chapter is against what lies within itself, or against a hunk's lines that are its file, or that come by it.
		dir(a, a, "x"), file(a, a, "x"), gone(a, a, "x"), move(a, a, "x", a, "y"), move(a, b, "x", a, "x"),
		hunk(a, a, b, nil, 0, "x"), hunk(a, b, a, nil, 0, "x"), hunk(a, begin, end, ids(a), 0), hunk(a, id("a", 5), id("a", 6), nil, 5, "x", "y"), hunk(a, begin, end, ids(id("a", 5)), 5, "x"),
		hunk(a, begin, end, ids(b), 7), hunk(a, begin, end, ids(b), 1<<20), hunk(a, begin, end, nil, 0, "x"), hunk(a, begin, end, nil, 1<<20, "x", "y"), hunk(a, begin, end, nil, 1<<20-1, great...),
		hunk(z, begin, end, dels, 0), hunk(z, a, b, back, 0), hunk(z, a, b, dels, 1, great...), hunk(z, z, id("z", 0), dels[:1999], 5, great[1:]...), hunk(a, b, id("b", 2), dels, 127, many(2000, "")...),
		api.Op{Kind: 1, Self: a, Name: "x", Dels: ids(), Lines: texts()}, api.Op{Kind: 4, Self: a, Name: "x", ToName: "y", Dels: ids(), Lines: texts()},
		api.Op{Kind: 5, Self: a, Left: begin, Right: end, Dels: ids(), Lines: texts("x")}, api.Op{Kind: 5, Self: a, Left: begin, Right: end, Dels: ids(b), Lines: texts()},
	) {
		if !slowMay(o) {
			t.Errorf("the words say that %s may not be", told(o))
		}
		rightOne(t, o)
	}
}

// P12.1, R5: kinds that are none.
func TestNoKind(t *testing.T) {
	for _, o := range append(bases(), api.Op{}) {
		for _, kind := range []int{0, 6, 7, 8, 128 + 1, 1<<8 + 1, 1<<32 + 1, 1<<32 + 5, -1, -5, math.MaxInt, math.MinInt, math.MinInt + 1, math.MinInt + 5} {
			o.Kind = kind
			wrongOne(t, o)
		}
	}
}

// P12.1: what each kind asks for, in few examples.
func TestWrong(t *testing.T) {
	a, b, c := id("a", 0), id("b", 3), id("c", 0)
	for _, o := range []api.Op{
		{}, {Kind: 1}, {Kind: 2, Name: "x"}, {Kind: 3, Self: root, Name: "x"}, {Kind: 5},
		dir(a, root, ""), dir(a, root, "F"), file(a, root, ".."), file(a, root, "a/b"), file(a, root, strings.Repeat("x", 41)), gone(a, root, ""), gone(a, root, "F"), gone(a, root, "x\n"),
		dir(begin, root, "x"), file(end, root, "x"), gone(root, root, "x"), dir(id("A", 0), root, "x"), file(id("a", -1), root, "x"), gone(id("a", 1<<20+1), root, "x"),
		dir(a, begin, "x"), file(a, end, "x"), gone(a, id("", 3), "x"), dir(a, id("B", 0), "x"), file(a, id("b", 1<<20+1), "x"),
		move(a, root, "f", root, "f"), move(a, b, "f", b, "f"), move(a, root, "f", root, ""), move(a, root, "", root, "f"), move(a, root, "f", b, ""), move(a, root, "F", b, "f"), move(a, root, "f", b, "F"),
		move(a, root, "f", begin, "f"), move(a, end, "f", root, "g"), move(root, root, "f", root, "g"), move(a, root, "f", id("b", -1), "f"), move(a, root, "", b, ""),
		hunk(a, end, end, nil, 0, "x"), hunk(a, begin, begin, nil, 0, "x"), hunk(a, end, begin, nil, 0, "x"), hunk(a, root, end, nil, 0, "x"), hunk(a, begin, root, nil, 0, "x"), hunk(a, end, b, nil, 0, "x"), hunk(a, b, begin, nil, 0, "x"),
		hunk(root, begin, end, nil, 0, "x"), hunk(begin, begin, end, nil, 0, "x"), hunk(a, b, b, nil, 0, "x"), hunk(a, b, end, ids(b), 0), hunk(a, begin, b, ids(b), 0, "x"), hunk(a, b, c, ids(a, b), 0), hunk(a, begin, end, ids(b, b), 0), hunk(a, begin, end, ids(b, c, a, b), 0),
		hunk(a, begin, end, ids(root), 0), hunk(a, begin, end, ids(begin), 0), hunk(a, begin, end, ids(end), 0), hunk(a, b, c, ids(begin), 0, "x"), hunk(a, b, c, ids(a, end), 0, "x"), hunk(a, begin, end, ids(b, id("b", -1)), 0), hunk(a, begin, end, ids(id("B", 0)), 0),
		hunk(a, begin, end, nil, 0), hunk(a, b, c, ids(), 7), hunk(a, begin, end, nil, -1, "x"), hunk(a, begin, end, ids(b), -1), hunk(a, begin, end, nil, 1<<20+1, "x"), hunk(a, begin, end, ids(b), 1<<20+1), hunk(a, begin, end, nil, math.MinInt, "x"), hunk(a, begin, end, nil, math.MaxInt, "x"),
		hunk(a, begin, end, nil, 0, "x\n"), hunk(a, begin, end, nil, 0, "x", "\xff"), hunk(a, begin, end, ids(b), 0, "\x00"), hunk(a, begin, end, nil, 0, strings.Repeat("x", 201)),
		hunk(a, begin, end, nil, 0, many(2001, "")...), hunk(a, begin, end, ident.Row("d", 0, 2000), 0, many(2001, "")...), hunk(a, begin, end, slices.Concat(ident.Row("d", 0, 2000), ids(b)), 0), hunk(a, begin, end, slices.Concat(ident.Row("d", 0, 2000), ids(b)), 0, "x"),
		hunk(a, begin, end, slices.Concat(ident.Row("d", 0, 1999), ids(id("d", 7))), 0, "x"), hunk(a, id("d", 1999), end, ident.Row("d", 0, 2000), 0, "x"), hunk(a, begin, id("d", 0), ident.Row("d", 0, 2000), 0, "x"),
	} {
		if slowMay(o) {
			t.Errorf("the words say that %s may be", told(o))
		}
		wrongOne(t, o)
	}
}

// changes are all that may be changed of an operation's parts, part by part.
func changes() [][]func(o *api.Op) {
	some := ids(root, begin, end, id("", 3), id("", -1), id("a", 0), id("a", 1), id("b", 7), id("b", 8), id("c", 1<<20), id("c", 1<<20+1), id("c", -1), id("A", 0), id("..", 0))
	names := texts("", "x", "y", "X", ".", "..", "a/b", "x\x00", strings.Repeat("x", 40), strings.Repeat("x", 41))
	all := make([][]func(o *api.Op), 10)
	add := func(part int, f func(o *api.Op)) { all[part] = append(all[part], f) }
	for _, x := range some {
		add(0, func(o *api.Op) { o.Self = x })
		add(1, func(o *api.Op) { o.Parent = x })
		add(2, func(o *api.Op) { o.To = x })
		add(3, func(o *api.Op) { o.Left = x })
		add(4, func(o *api.Op) { o.Right = x })
	}
	for _, s := range names {
		add(5, func(o *api.Op) { o.Name = s })
		add(6, func(o *api.Op) { o.ToName = s })
	}
	for _, l := range [][]api.Id{nil, {}, ids(some[5]), ids(some[7], some[8]), ids(some[8], some[7]), ids(some[7], some[7]), ids(some[9], some[5], some[10]), ids(root), ids(some[5], begin), ids(end, some[5])} {
		add(7, func(o *api.Op) { o.Dels = l })
	}
	for _, n := range []int{0, 1, 128, 1 << 20, 1<<20 + 1, -1, 1 << 40} {
		add(8, func(o *api.Op) { o.First = n })
	}
	for _, l := range [][]string{nil, {}, texts(""), texts("x", "x"), texts("x\r", "y"), texts("\xff")} {
		add(9, func(o *api.Op) { o.Lines = l })
	}
	return all
}

// P12.1, P12.2, P12.4: operations with each two of their parts changed, each to all that is there for it, against the words.
func TestEachTwoParts(t *testing.T) {
	may := 0
	all := changes()
	for _, base := range bases() {
		for i, first := range all {
			for _, second := range all[i:] {
				for _, f := range first {
					for _, g := range second {
						o := base
						f(&o)
						g(&o)
						one(t, o)
						if slowMay(o) {
							may++
						}
					}
				}
			}
		}
		if t.Failed() {
			return
		}
	}
	if may < 1000 {
		t.Errorf("only %d of these may be", may)
	}
}

// P12.1: the bytes of an operation of each kind, letter by letter.
func TestPut(t *testing.T) {
	a, b := id("a", 0), id("b", 300)
	for _, c := range []struct {
		o    api.Op
		want string
	}{
		{dir(a, root, "x"), "\x01\x00" + "\x03a#0" + "\x02#0" + "\x02#0" + "\x02#0" + "\x02#0" + "\x01x" + "\x00" + "\x00" + "\x00"},
		{file(b, a, "x.y"), "\x02\x00" + "\x05b#300" + "\x03a#0" + "\x02#0" + "\x02#0" + "\x02#0" + "\x03x.y" + "\x00" + "\x00" + "\x00"},
		{gone(b, root, "x"), "\x03\x00" + "\x05b#300" + "\x02#0" + "\x02#0" + "\x02#0" + "\x02#0" + "\x01x" + "\x00" + "\x00" + "\x00"},
		{move(a, root, "x", b, "yy"), "\x04\x00" + "\x03a#0" + "\x02#0" + "\x05b#300" + "\x02#0" + "\x02#0" + "\x01x" + "\x02yy" + "\x00" + "\x00"},
		{hunk(a, begin, end, nil, 300, "x", ""), "\x05\xac\x02" + "\x03a#0" + "\x02#0" + "\x02#0" + "\x02#1" + "\x02#2" + "\x00" + "\x00" + "\x00" + "\x02\x01x\x00"},
		{hunk(a, b, id("c", 1), ids(id("b", 2), a), 0), "\x05\x00" + "\x03a#0" + "\x02#0" + "\x02#0" + "\x05b#300" + "\x03c#1" + "\x00" + "\x00" + "\x02\x03b#2\x03a#0" + "\x00"},
	} {
		if s, e := op.Put(c.o); s != c.want || e != api.OK {
			t.Errorf("Put of %s = %q %d, want %q", told(c.o), s, e, c.want)
		}
		if o, e := op.Get(c.want); !is(o, c.o) || e != api.OK {
			t.Errorf("Get of %q = %s %d, want %s", c.want, told(o), e, told(c.o))
		}
	}
}

// wrongBytes looks whether bytes are read as no operation, with this error.
func wrongBytes(t *testing.T, s string, want api.Errno) {
	t.Helper()
	if o, e := op.Get(s); e != want || !is(o, api.Op{}) {
		t.Errorf("Get of %.200q = %s %d, want %d", s, told(o), e, want)
	}
}

// P12.2: bytes that end, wherever, and bytes behind the end.
func TestGetCutOrLonger(t *testing.T) {
	for _, o := range bases() {
		s := slowPut(o)
		for n := range len(s) {
			wrongBytes(t, s[:n], api.ErrShort)
		}
		for _, more := range texts("\x00", "\x01", "\x80", "\xff", "a", s) {
			wrongBytes(t, s+more, api.ErrForm)
		}
	}
}

// laid lays numbers and texts as they stand, with lists of dels and lines.
func laid(kind, first uint64, texts []string, dels, lines []string) string {
	s := code.Num(kind) + code.Num(first)
	for _, text := range texts {
		s += code.Text(text)
	}
	return s + code.List(dels...) + code.List(lines...)
}

// P12.2: bytes that read well, and are no operation's.
func TestGetForm(t *testing.T) {
	right := texts("a#0", "#0", "#0", "#1", "#2", "", "")
	if o, e := op.Get(laid(5, 0, right, texts("b#0"), texts("x"))); e != api.OK || !is(o, hunk(id("a", 0), begin, end, ids(id("b", 0)), 0, "x")) {
		t.Fatalf("Get = %s %d", told(o), e)
	}
	for _, kind := range []uint64{0, 6, 5 + 1<<8, 5 + 1<<16, 5 + 1<<32, 5 + 1<<63, 1<<63 - 1, 1 << 63, math.MaxUint64} {
		wrongBytes(t, laid(kind, 0, right, texts("b#0"), texts("x")), api.ErrForm)
	}
	for _, first := range []uint64{1<<20 + 1, 1 << 32, 1<<32 + 5, 1 << 63, 1<<63 - 1, math.MaxUint64} {
		wrongBytes(t, laid(5, first, right, texts("b#0"), texts("x")), api.ErrForm)
	}
	wrongIds := texts("", "#", "a", "a#", "a#00", "a#01", "a#+0", "a#-0", "a#0#", "a#0 ", " a#0", "A#0", "#3", "#00", "#01", "#02", "#-1", "a#1048577", "a#18446744073709551616", "a\x00#0", "..#0")
	for _, text := range wrongIds {
		for i := range 5 {
			l := slices.Clone(right)
			l[i] = text
			wrongBytes(t, laid(5, 0, l, texts("b#0"), texts("x")), api.ErrForm)
			wrongBytes(t, laid(4, 0, slices.Replace(texts("a#0", "#0", "#0", "#0", "#0", "x", "y"), i, i+1, text), nil, nil), api.ErrForm)
		}
		wrongBytes(t, laid(5, 0, right, texts(text), texts("x")), api.ErrForm)
		wrongBytes(t, laid(5, 0, right, texts("b#0", text), nil), api.ErrForm)
		wrongBytes(t, laid(5, 0, right, texts(text, "b#0"), nil), api.ErrForm)
	}
	wrongBytes(t, laid(5, 0, right, make([]string, 1<<16), texts("x")), api.ErrForm)
	wrongBytes(t, laid(5, 0, right, nil, make([]string, 1<<16)), api.ErrForm)
}

// P12.2, R2: the error of reading comes first, whatever was read ahead of it; of several, the first.
func TestGetFirstError(t *testing.T) {
	wrong := laid(99, 1<<40, texts("A#0", "?", "", "#9", "a", "X", "Y"), texts("?"), texts("\n"))
	for n := range len(wrong) {
		wrongBytes(t, wrong[:n], api.ErrShort)
	}
	wrongBytes(t, wrong, api.ErrForm)
	wrongBytes(t, "", api.ErrShort)
	wrongBytes(t, "\x01", api.ErrShort)
	wrongBytes(t, "\x81\x00", api.ErrForm)
	wrongBytes(t, "\x81\x00\x80", api.ErrForm)
	wrongBytes(t, "\x01\x80\x00", api.ErrForm)
	wrongBytes(t, "\x01\x80\x00\x05", api.ErrForm)
	wrongBytes(t, "\x01\x00\x83\x00a#0", api.ErrForm)
	wrongBytes(t, "\x01\x00\x7fa#0", api.ErrShort)
	wrongBytes(t, strings.Repeat("\xff", 9)+"\x02", api.ErrForm)
	wrongBytes(t, strings.Repeat("\xff", 9)+"\x01", api.ErrShort)
	// Numbers that are laid longer than they need be, with all else right.
	s := slowPut(dir(id("a", 0), root, "x"))
	for i, b := range []byte(s) {
		if b < 32 {
			wrongBytes(t, s[:i]+string([]byte{b + 128, 0})+s[i+1:], api.ErrForm)
		}
	}
}

// slowGet reads as the words of the chapter say: all is read first, and then looked at.
func slowGet(s string) (api.Op, api.Errno) {
	r := code.Read(s)
	kind, first := r.Num(), r.Num()
	l := make([]string, 7)
	for i := range l {
		l[i] = r.Text()
	}
	dels, lines := r.List(), r.List()
	switch {
	case r.Err() != api.OK:
		return api.Op{}, r.Err()
	case r.Left() > 0 || kind > 5 || first > 1<<20:
		return api.Op{}, api.ErrForm
	}
	var x []api.Id
	for _, text := range append(l[:5:5], dels...) {
		y, e := ident.Parse(text)
		if e != api.OK {
			return api.Op{}, api.ErrForm
		}
		x = append(x, y)
	}
	o := api.Op{Kind: int(kind), First: int(first), Self: x[0], Parent: x[1], To: x[2], Left: x[3], Right: x[4], Name: l[5], ToName: l[6], Dels: x[5:], Lines: lines}
	if !slowMay(o) {
		return api.Op{}, api.ErrForm
	}
	return o, api.OK
}

// P12.2, P12.4: an operation's bytes with each one changed, taken out, or doubled: either they are none's, or the very bytes of what they are read as.
func TestEachByte(t *testing.T) {
	read := 0
	try := func(s string) {
		want, wrong := slowGet(s)
		o, e := op.Get(s)
		if e != wrong || !is(o, want) {
			t.Fatalf("Get of %q = %s %d, want %s %d", s, told(o), e, told(want), wrong)
		}
		if e != api.OK {
			return
		}
		read++
		if back, e := op.Put(o); back != s || e != api.OK {
			t.Fatalf("%q is read as %s, which is laid as %q %d", s, told(o), back, e)
		}
	}
	for _, o := range bases() {
		s := slowPut(o)
		for i := range len(s) {
			for b := range 256 {
				try(s[:i] + string([]byte{byte(b)}) + s[i+1:])
			}
			try(s[:i] + s[i+1:])
			try(s[:i] + s[i:i+1] + s[i:])
		}
	}
	if read < 1000 {
		t.Errorf("only %d are read", read)
	}
}

// P12.1: operations are the same just if all parts are, lists in their order; they may be or not.
func TestSame(t *testing.T) {
	var all []api.Op
	for _, base := range append(bases(), api.Op{}) {
		for _, part := range changes() {
			for _, f := range part {
				o := base
				f(&o)
				all = append(all, o)
			}
		}
		base.Kind = 77
		all = append(all, base)
	}
	same := 0
	for _, a := range all {
		for _, b := range all {
			if op.Same(a, b) != is(a, b) {
				t.Fatalf("Same of %s and %s = %v", told(a), told(b), !is(a, b))
			}
			if is(a, b) {
				same++
			}
		}
	}
	if same <= len(all) || same == len(all)*len(all) {
		t.Errorf("%d of %d are the same", same, len(all)*len(all))
	}
	a, b := id("a", 0), id("b", 0)
	if op.Same(hunk(a, begin, end, ids(a, b), 0), hunk(a, begin, end, ids(b, a), 0)) || op.Same(hunk(a, begin, end, nil, 0, "x", "y"), hunk(a, begin, end, nil, 0, "y", "x")) || op.Same(hunk(a, begin, end, nil, 0), hunk(a, begin, end, nil, 0, "")) {
		t.Error("lists of another order, or with an empty line, are the same")
	}
}

// sameIds looks at ids that were told.
func sameIds(t *testing.T, what string, o api.Op, got, want []api.Id) {
	t.Helper()
	if !slices.Equal(got, want) {
		t.Errorf("%s of %s = %s, want %s", what, told(o), toldIds(got...), toldIds(want...))
	}
}

// P12.3, R5: what a patch makes.
func TestComes(t *testing.T) {
	a, b := id("a", 4), id("b", 3)
	for _, c := range []struct {
		patch string
		o     api.Op
		want  []api.Id
	}{
		{"a", dir(a, root, "x"), ids(a)}, {"a", file(a, b, "x"), ids(a)}, {"a", dir(b, root, "x"), ids(b)}, {"", file(b, a, "x"), ids(b)}, {"a", file(root, a, ""), ids(root)}, {"a", dir(id("A", -1), a, ""), ids(id("A", -1))},
		{"a", gone(a, root, "x"), nil}, {"a", move(a, root, "x", b, "y"), nil}, {"a", api.Op{}, nil}, {"a", api.Op{Kind: 6, Self: a, Lines: texts("x")}, nil}, {"a", api.Op{Kind: -1, Self: a, Lines: texts("x")}, nil}, {"a", api.Op{Kind: math.MinInt + 5, Self: a, Lines: texts("x")}, nil},
		{"a", hunk(b, begin, end, ids(b), 7), nil}, {"a", hunk(b, begin, end, nil, 7, "x"), ids(id("a", 7))}, {"b", hunk(a, begin, end, ids(b), 0, "x", "", "x"), ids(id("b", 0), id("b", 1), id("b", 2))},
		{"a", hunk(a, begin, end, nil, 4, "x"), ids(a)}, {"a", hunk(b, begin, end, nil, 1<<20, "x", "y"), ids(id("a", 1<<20), id("a", 1<<20+1))}, {"", hunk(b, begin, end, nil, 1, "x"), ids(begin)}, {"A", hunk(root, root, root, nil, 1, "\n"), ids(id("A", 1))},
		{"a", hunk(b, begin, end, nil, -1, "x"), nil}, {"a", hunk(b, begin, end, nil, math.MinInt, "x"), nil}, {"a", hunk(b, begin, end, nil, math.MaxInt, "x"), ids(id("a", math.MaxInt))}, {"a", hunk(b, begin, end, nil, 0, many(2001, "")...), nil},
		{"a", hunk(b, begin, end, nil, 3, many(2000, "")...), ident.Row("a", 3, 2000)}, {"a", hunk(b, begin, end, ident.Row("b", 0, 2000), 3, many(1999, "")...), ident.Row("a", 3, 1999)},
	} {
		sameIds(t, "Comes by "+c.patch, c.o, op.Comes(c.patch, c.o), c.want)
	}
}

// P12.3: what an operation names, and does not make: as a set, those of a patch alone.
func TestIds(t *testing.T) {
	a, b, c := id("a", 4), id("b", 3), id("c", 0)
	for _, x := range []struct {
		o    api.Op
		want []api.Id
	}{
		{dir(b, a, "x"), ids(a)}, {file(b, a, "x"), ids(a)}, {dir(b, root, "x"), nil}, {file(b, root, "x"), nil}, {dir(a, a, "x"), ids(a)}, {file(a, begin, "x"), nil},
		{gone(b, a, "x"), ids(a, b)}, {gone(a, b, "x"), ids(a, b)}, {gone(a, root, "x"), ids(a)}, {gone(a, a, "x"), ids(a)}, {gone(root, root, "x"), nil},
		{move(c, b, "x", a, "y"), ids(a, b, c)}, {move(a, root, "x", root, "y"), ids(a)}, {move(a, root, "x", b, "y"), ids(a, b)}, {move(b, a, "x", root, "y"), ids(a, b)}, {move(b, a, "x", a, "y"), ids(a, b)}, {move(root, root, "x", root, "x"), nil},
		{hunk(a, begin, end, nil, 0, "x"), ids(a)}, {hunk(c, b, a, nil, 0, "x"), ids(a, b, c)}, {hunk(c, begin, a, nil, 0, "x"), ids(a, c)}, {hunk(c, a, end, nil, 0, "x"), ids(a, c)},
		{hunk(b, begin, end, ids(c, a), 0), ids(a, b, c)}, {hunk(a, b, c, ids(id("c", 2), id("c", 10), id("c", 1)), 0), ids(a, b, c, id("c", 1), id("c", 2), id("c", 10))}, {hunk(a, a, a, ids(b, a, b), 0), ids(a, b)}, {hunk(a, b, end, nil, 3, "x"), ids(a, b)},
		{hunk(root, begin, end, ids(root, id("", 7), b, id("", -1), end), 0), ids(b)}, {hunk(a, begin, end, ids(id("A", 0), id("b", -1)), 0), ids(id("A", 0), a, id("b", -1))},
		{api.Op{Kind: 1, Self: a, To: b, Left: b, Right: b, Dels: ids(b)}, nil}, {api.Op{Kind: 2, Parent: c, Self: a, To: b, Left: b, Right: b, Dels: ids(b)}, ids(c)}, {api.Op{Kind: 3, Self: a, To: b, Left: b, Right: b, Dels: ids(b)}, ids(a)},
		{api.Op{Kind: 4, Self: a, Left: b, Right: b, Dels: ids(b)}, ids(a)}, {api.Op{Kind: 5, Self: a, Parent: b, To: c}, ids(a)}, {api.Op{Kind: 0, Self: a, Parent: b, To: c}, nil}, {api.Op{Kind: 6, Self: a, Parent: b, To: c, Left: a, Dels: ids(a)}, nil}, {api.Op{Kind: -5, Self: a, Parent: b}, nil},
	} {
		sameIds(t, "Ids", x.o, op.Ids(x.o), x.want)
	}
	dels := ident.Row("d", 0, 2000)
	slices.Reverse(dels)
	o := hunk(a, begin, id("e", 0), dels, 0)
	sameIds(t, "Ids", o, op.Ids(o), slices.Concat(ids(a), ident.Row("d", 0, 2000), ids(id("e", 0))))
}

// spare are operations with lists that have room behind their ends.
func spare() (o api.Op, dels []api.Id, lines []string) {
	dels, lines = ids(id("c", 1), id("b", 2), id("z", 1), id("z", 2), id("z", 3), id("z", 4)), texts("x", "y", "spare", "spare")
	return hunk(id("a", 0), begin, end, dels[:2], 5, lines[:2]...), dels, lines
}

// P12.1 to P12.3, R3: what is handed in stays as it is, its spare room too, and what is told is new memory.
func TestMemory(t *testing.T) {
	o, dels, lines := spare()
	wantDels, wantLines := slices.Clone(dels), slices.Clone(lines)
	s, _ := op.Put(o)
	op.Check(o)
	op.Same(o, o)
	for _, l := range [][]api.Id{op.Ids(o), op.Comes("a", o), op.Ids(gone(id("a", 0), id("b", 0), "x"))} {
		for i := range l[:cap(l)] {
			l[:cap(l)][i] = id("changed", 0)
		}
	}
	if !slices.Equal(dels, wantDels) || !slices.Equal(lines, wantLines) {
		t.Errorf("an argument changed: %s %q", toldIds(dels...), lines)
	}
	first, _ := op.Get(s)
	second, _ := op.Get(s)
	first.Dels[0], first.Lines[0] = root, "changed"
	_, _ = append(first.Dels[:1], root), append(first.Lines[:1], "changed")
	if !is(second, o) {
		t.Errorf("an operation changed with another one: %s", told(second))
	}
	o.Dels[0], o.Lines[0] = root, "changed"
	if third, e := op.Get(s); !is(third, second) || e != api.OK {
		t.Errorf("bytes changed with what they were laid of: %s %d", told(third), e)
	}
}
