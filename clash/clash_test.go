package clash_test

import (
	"fmt"
	"math"
	"math/rand/v2"
	"slices"
	"strconv"
	"strings"
	"testing"

	"rafter/api"
	"rafter/clash"
	"rafter/ident"
	"rafter/op"
)

// Files and directories, and lines of one file.
var (
	f  = api.Id{Patch: "f"}
	g  = api.Id{Patch: "g"}
	d  = api.Id{Patch: "d"}
	l1 = api.Id{Patch: "f", N: 1}
	l2 = api.Id{Patch: "f", N: 2}
	l3 = api.Id{Patch: "f", N: 3}
	l4 = api.Id{Patch: "p", N: 4}
	l5 = api.Id{Patch: "q", N: 4}
)

// ids is a list of ids.
func ids(l ...api.Id) []api.Id { return l }

// at is an operation of one place.
func at(kind int, self, parent api.Id, name string) api.Op {
	return api.Op{Kind: kind, Self: self, Parent: parent, Name: name}
}

// move is a move.
func move(self, parent api.Id, name string, to api.Id, toName string) api.Op {
	return api.Op{Kind: api.OMove, Self: self, Parent: parent, Name: name, To: to, ToName: toName}
}

// hunk is a hunk.
func hunk(self, left, right api.Id, dels ...api.Id) api.Op {
	return api.Op{Kind: api.OHunk, Self: self, Left: left, Right: right, Dels: dels, Lines: []string{"x"}}
}

// doing is a patch of operations.
func doing(ops ...api.Op) api.Patch { return api.Patch{Name: "p", Ops: ops} }

// slowAt is a place, as the chapter's words have it.
type slowAt struct {
	dir  api.Id
	name string
}

// slowTouched tells places as the words of the chapter say.
func slowTouched(o api.Op) []slowAt {
	switch o.Kind {
	case api.ODir, api.OFile, api.OGone:
		return []slowAt{{o.Parent, o.Name}}
	case api.OMove:
		return []slowAt{{o.Parent, o.Name}, {o.To, o.ToName}}
	}
	return nil
}

// slowMeet tells whether lists have one in common.
func slowMeet[T comparable](a, b []T) bool {
	for _, x := range a {
		for _, y := range b {
			if x == y {
				return true
			}
		}
	}
	return false
}

// slowIn tells whether an operation touches a place in a directory.
func slowIn(o api.Op, dir api.Id) bool {
	for _, x := range slowTouched(o) {
		if x.dir == dir {
			return true
		}
	}
	return false
}

// slowHolds tells, by the words, each number that is so of two operations; the first one is why they clash.
func slowHolds(a, b api.Op) []int {
	is := func(k, m int) bool { return a.Kind == k && b.Kind == m }
	away := func(o api.Op) bool { return o.Kind == api.OGone || o.Kind == api.OMove }
	one := a.Self == b.Self
	ends := func(o api.Op) []api.Id { return append(ids(o.Left, o.Right), o.Dels...) }
	lines := a.Left == b.Left || a.Right == b.Right || slowMeet(a.Dels, ends(b)) || slowMeet(b.Dels, ends(a))
	so := []bool{
		is(api.OHunk, api.OHunk) && one && lines,
		(is(api.OHunk, api.OGone) || is(api.OGone, api.OHunk)) && one,
		slowMeet(slowTouched(a), slowTouched(b)),
		away(a) && away(b) && one,
		a.Kind == api.OGone && slowIn(b, a.Self) || b.Kind == api.OGone && slowIn(a, b.Self),
	}
	var l []int
	for i, is := range so {
		if is {
			l = append(l, i+1)
		}
	}
	return l
}

// slowOps tells why two operations clash.
func slowOps(a, b api.Op) int {
	for _, n := range slowHolds(a, b) {
		return n
	}
	return 0
}

// slowPairs tells which operations clash.
func slowPairs(p, q api.Patch) [][2]int {
	var l [][2]int
	for i, a := range p.Ops {
		for j, b := range q.Ops {
			if slowOps(a, b) != 0 {
				l = append(l, [2]int{i, j})
			}
		}
	}
	return l
}

// slowPlaces tells texts of places.
func slowPlaces(o api.Op) [][2]string {
	var l [][2]string
	for _, x := range slowTouched(o) {
		l = append(l, [2]string{ident.Text(x.dir), x.name})
	}
	return l
}

// lists are lists of lines that go, of those of one file.
func lists() [][]api.Id {
	return [][]api.Id{nil, {}, ids(l1), ids(l2), ids(l4), ids(l5), ids(l1, l2), ids(l3, l1), ids(l4, l5), ids(l2, l2)}
}

// allHunks are hunks of two files, with each ends and each list of lines that go; they have places, too, that are none of theirs.
func allHunks() []api.Op {
	var all []api.Op
	for _, self := range ids(f, d) {
		for _, left := range ids(ident.Begin(), l1, l2, l4) {
			for _, right := range ids(ident.End(), l1, l3, l5) {
				for _, dels := range lists() {
					o := hunk(self, left, right, dels...)
					o.Parent, o.Name, o.To, o.ToName = d, "x", ident.Root(), "y"
					all = append(all, o)
				}
			}
		}
	}
	return all
}

// allPlaced are operations of each other kind, and of none, at each two of places; they have lines, too, that are none of theirs.
func allPlaced() []api.Op {
	var all []api.Op
	for _, kind := range []int{api.ODir, api.OFile, api.OGone, api.OMove, 0, 6, -1} {
		for _, self := range ids(f, d) {
			for _, from := range ids(ident.Root(), f, d) {
				for _, to := range ids(ident.Root(), f, d) {
					for _, names := range []string{"xx", "xy", "yx", "yy"} {
						o := move(self, from, names[:1], to, names[1:])
						o.Kind, o.Left, o.Right, o.Dels = kind, l1, l3, ids(l2)
						all = append(all, o)
					}
				}
			}
		}
	}
	return all
}

// TestPlaces: P15.1, of each kind.
func TestPlaces(t *testing.T) {
	for _, o := range append(allHunks(), allPlaced()...) {
		if got := clash.Places(o); !slices.Equal(got, slowPlaces(o)) {
			t.Fatal(o, got)
		}
	}
}

// TestPlacesTold: P15.1, some by their texts.
func TestPlacesTold(t *testing.T) {
	x := api.Id{Patch: "b-2", N: 1 << 20}
	for _, c := range []struct {
		o    api.Op
		want [][2]string
	}{
		{at(api.ODir, d, ident.Root(), "a"), [][2]string{{"#0", "a"}}},
		{at(api.OFile, f, x, "b"), [][2]string{{"b-2#1048576", "b"}}},
		{at(api.OGone, f, d, "c"), [][2]string{{"d#0", "c"}}},
		{move(f, x, "e", d, "b"), [][2]string{{"b-2#1048576", "e"}, {"d#0", "b"}}},
		{move(f, d, "e", d, "b"), [][2]string{{"d#0", "e"}, {"d#0", "b"}}},
		{move(f, d, "e", d, "e"), [][2]string{{"d#0", "e"}, {"d#0", "e"}}},
		{hunk(f, l1, l2), nil},
		{api.Op{}, nil},
		{api.Op{Kind: math.MaxInt, Parent: d, Name: "x"}, nil},
		{api.Op{Kind: math.MinInt, Parent: d, Name: "x"}, nil},
	} {
		if got := clash.Places(c.o); !slices.Equal(got, c.want) {
			t.Error(c.o, got, c.want)
		}
	}
}

// TestPlacesWrong: P15.1, of ids that have no text, and names that are none.
func TestPlacesWrong(t *testing.T) {
	for _, c := range []struct {
		dir  api.Id
		text string
	}{
		{api.Id{N: 3}, ""},
		{api.Id{N: -1}, ""},
		{api.Id{N: math.MinInt}, ""},
		{api.Id{Patch: "a", N: 1<<20 + 1}, ""},
		{api.Id{Patch: "A b"}, ""},
		{ident.End(), "#2"},
	} {
		for _, name := range []string{"", "a/b", "A", "\xff", strings.Repeat("n", 5000)} {
			if got := clash.Places(at(api.OFile, f, c.dir, name)); !slices.Equal(got, [][2]string{{c.text, name}}) {
				t.Error(c.dir, got)
			}
			want := [][2]string{{"d#0", "x"}, {c.text, name}}
			if got := clash.Places(move(f, d, "x", c.dir, name)); !slices.Equal(got, want) {
				t.Error(c.dir, got)
			}
		}
	}
}

// TestOps: P15.1, P15.3, each two of all these operations, whichever is first.
func TestOps(t *testing.T) {
	all := append(allHunks(), allPlaced()...)
	counts := map[int]int{}
	for _, a := range all {
		for _, b := range all {
			want := slowOps(a, b)
			counts[want]++
			if got, back := clash.Ops(a, b), clash.Ops(b, a); got != want || back != want {
				t.Fatal(a, b, got, back, want)
			}
		}
	}
	for n := range 6 {
		if counts[n] == 0 {
			t.Error("no two of", n)
		}
	}
}

// TestOpsMay: P15.1, P15.3, of operations that may be; each number comes up, and of each two numbers that are so the lesser one is told.
func TestOpsMay(t *testing.T) {
	var may []api.Op
	for _, o := range append(allHunks(), allPlaced()...) {
		if o.Kind == api.OHunk {
			o.Parent, o.To, o.Name, o.ToName = api.Id{}, api.Id{}, "", ""
		} else {
			o.Left, o.Right, o.Dels = api.Id{}, api.Id{}, nil
		}
		if o.Kind != api.OMove {
			o.To, o.ToName = api.Id{}, ""
		}
		if op.Check(o) == api.OK {
			may = append(may, o)
		}
	}
	seen := map[string]int{}
	for _, a := range may {
		for _, b := range may {
			holds := slowHolds(a, b)
			seen[fmt.Sprint(holds)]++
			if got := clash.Ops(a, b); got != slowOps(a, b) {
				t.Fatal(a, b, got, holds)
			}
		}
	}
	for _, s := range []string{"[]", "[1]", "[2]", "[3]", "[4]", "[5]", "[3 4]", "[3 5]", "[4 5]", "[3 4 5]"} {
		if seen[s] == 0 {
			t.Error("no two of which these are so:", s)
		}
	}
}

// TestOpsTold: P15.1, P15.3, by examples, each of them both ways.
func TestOpsTold(t *testing.T) {
	b, e, root := ident.Begin(), ident.End(), ident.Root()
	for _, c := range []struct {
		a, b api.Op
		want int
	}{
		// Two files of one name in the root: the chapter's example.
		{at(api.OFile, f, root, "x"), at(api.OFile, g, root, "x"), 3},
		{at(api.OFile, f, root, "x"), at(api.OFile, g, root, "y"), 0},
		{at(api.OFile, f, root, "x"), at(api.OFile, g, d, "x"), 0},
		{at(api.ODir, f, root, "x"), at(api.OFile, g, root, "x"), 3},
		// Neither is anything a file that came twice, at two places.
		{at(api.OFile, f, root, "x"), at(api.OFile, f, root, "y"), 0},
		{at(api.OFile, f, root, "x"), at(api.OGone, f, root, "y"), 0},
		{at(api.OFile, f, root, "x"), move(f, root, "y", root, "z"), 0},
		// Hunks, by what is left and right of them, and by what goes.
		{hunk(f, b, l1), hunk(f, b, e), 1},
		{hunk(f, l1, e), hunk(f, b, e), 1},
		{hunk(f, l1, l2), hunk(f, l2, l1), 0},
		{hunk(f, l1, l2), hunk(f, l2, l3), 0},
		{hunk(f, b, l3, l1, l2), hunk(f, l4, l5, l2), 1},
		{hunk(f, b, l3, l1, l2), hunk(f, l1, l5), 1},
		{hunk(f, b, l3, l1, l2), hunk(f, l5, l2), 1},
		{hunk(f, b, l3, l1, l2), hunk(f, l3, l5), 0},
		{hunk(f, b, l3, l1, l2), hunk(g, b, l3, l1), 0},
		{hunk(f, b, l3, l1), hunk(f, l3, l5, l2), 0},
		{hunk(f, b, l3, l1), hunk(f, l2, e, l3), 1},
		{hunk(f, l2, e, l1), hunk(f, b, l3, l2), 1},
		// A hunk, and what goes.
		{hunk(f, b, e), at(api.OGone, f, root, "x"), 2},
		{hunk(f, b, e), at(api.OGone, g, root, "x"), 0},
		{hunk(f, b, e), at(api.OGone, d, f, "x"), 0},
		{hunk(f, b, e), move(f, root, "x", root, "y"), 0},
		{hunk(f, b, e), at(api.OFile, f, root, "x"), 0},
		{hunk(f, b, e), at(api.ODir, f, root, "x"), 0},
		// Moves, from and to, each of their places.
		{move(f, root, "x", root, "y"), move(f, root, "x", root, "z"), 3},
		{move(f, root, "x", root, "y"), move(g, root, "z", root, "y"), 3},
		{move(f, root, "x", root, "y"), move(g, root, "y", root, "z"), 3},
		{move(f, root, "x", root, "y"), move(g, root, "z", root, "x"), 3},
		{move(f, root, "x", root, "y"), move(g, d, "x", d, "y"), 0},
		{move(f, root, "x", root, "y"), at(api.OFile, g, root, "x"), 3},
		{move(f, root, "x", root, "y"), at(api.OFile, g, root, "y"), 3},
		// One thing goes, or moves, by both, from two places.
		{move(f, root, "x", root, "y"), move(f, d, "x", d, "y"), 4},
		{at(api.OGone, f, root, "x"), at(api.OGone, f, d, "x"), 4},
		{at(api.OGone, f, root, "x"), move(f, d, "x", d, "y"), 4},
		{at(api.OGone, f, root, "x"), at(api.OGone, f, root, "x"), 3},
		{at(api.OGone, f, root, "x"), at(api.OGone, g, root, "y"), 0},
		// What a directory that goes has within it.
		{at(api.OGone, d, root, "d"), at(api.OFile, f, d, "x"), 5},
		{at(api.OGone, d, root, "d"), at(api.ODir, f, d, "x"), 5},
		{at(api.OGone, d, root, "d"), at(api.OGone, f, d, "x"), 5},
		{at(api.OGone, d, root, "d"), move(f, d, "x", root, "x"), 5},
		{at(api.OGone, d, root, "d"), move(f, root, "x", d, "x"), 5},
		{at(api.OGone, d, root, "d"), move(f, root, "x", root, "y"), 0},
		{at(api.OGone, d, root, "d"), at(api.OFile, d, root, "x"), 0},
		{at(api.OGone, d, root, "d"), hunk(f, b, e), 0},
		{move(d, root, "d", root, "e"), at(api.OFile, f, d, "x"), 0},
		{at(api.ODir, d, root, "d"), at(api.OFile, f, d, "x"), 0},
		// The first one that is so.
		{at(api.OGone, d, root, "d"), move(f, root, "d", d, "x"), 3},
		{at(api.OGone, d, root, "d"), move(d, root, "x", d, "x"), 4},
	} {
		if got, back := clash.Ops(c.a, c.b), clash.Ops(c.b, c.a); got != c.want || back != c.want {
			t.Error(c.a, c.b, got, back, c.want)
		}
	}
}

// TestOpsWrong: P15.1, P15.3, R1, of operations that may not be: an id is itself, whether it has a text or not.
func TestOpsWrong(t *testing.T) {
	none, other := api.Id{N: 7}, api.Id{Patch: "no name", N: math.MinInt}
	for _, c := range []struct {
		a, b api.Op
		want int
	}{
		{api.Op{}, api.Op{}, 0},
		{api.Op{Kind: math.MaxInt, Name: "x"}, api.Op{Kind: math.MaxInt, Name: "x"}, 0},
		{api.Op{Kind: math.MinInt}, at(api.OGone, api.Id{}, api.Id{}, ""), 0},
		{at(api.OFile, f, none, "x"), at(api.OFile, g, none, "x"), 3},
		{at(api.OFile, f, none, "x"), at(api.OFile, g, other, "x"), 0},
		{at(api.OFile, f, none, ""), at(api.OFile, g, none, ""), 3},
		{at(api.OFile, f, none, "a/b"), at(api.OFile, g, none, "a/b"), 3},
		{at(api.OGone, none, f, "x"), at(api.OGone, none, g, "x"), 4},
		{at(api.OGone, none, f, "x"), at(api.OGone, other, g, "x"), 0},
		{at(api.OGone, none, f, "x"), at(api.OFile, g, none, "x"), 5},
		{at(api.OGone, none, f, "x"), at(api.OFile, g, other, "x"), 0},
		{at(api.OGone, ident.Root(), f, "x"), at(api.OFile, g, ident.Root(), "x"), 5},
		{hunk(none, l1, l2), hunk(none, l1, l3), 1},
		{hunk(none, l1, l2), hunk(other, l1, l2), 0},
		{hunk(f, none, other), hunk(f, other, none), 0},
		{hunk(f, l1, l2, none), hunk(f, l3, l4, other), 0},
		{hunk(f, l1, l2, none), hunk(f, l3, l4, none), 1},
		// What a hunk takes away may be what is left or right of itself: that alone is no clash.
		{hunk(f, l1, l2, l1), hunk(f, l3, l4, l5), 0},
		{hunk(f, l1, l2, l1), hunk(f, l2, l1), 1},
	} {
		if got, back := clash.Ops(c.a, c.b), clash.Ops(c.b, c.a); got != c.want || back != c.want {
			t.Error(c.a, c.b, got, back, c.want)
		}
	}
}

// row is a list of a patch's lines.
func row(patch string, n int) []api.Id {
	var l []api.Id
	for i := range n {
		l = append(l, api.Id{Patch: patch, N: i})
	}
	return l
}

// TestOpsLong: P15.1, P15.3, hunks of few lines that go, and of many: each of them counts.
func TestOpsLong(t *testing.T) {
	for _, n := range []int{1, 2, 7, 8, 9, 10, 100, 2000, 5000} {
		long := hunk(f, l1, l2, row("long", n)...)
		other := hunk(f, l3, l4, row("other", n)...)
		if clash.Ops(long, other) != 0 || clash.Ops(other, long) != 0 {
			t.Error(n, "apart")
		}
		for _, i := range []int{0, n / 2, n - 1} {
			x := long.Dels[i]
			near := slices.Clone(other.Dels)
			near[n-1-i] = x
			for _, b := range []api.Op{hunk(f, x, l5), hunk(f, l5, x), hunk(f, l4, l5, x), hunk(f, l3, l4, near...)} {
				if clash.Ops(long, b) != 1 || clash.Ops(b, long) != 1 {
					t.Error(n, i, b.Left, b.Right)
				}
			}
			far := api.Id{Patch: x.Patch, N: x.N + n}
			for _, b := range []api.Op{hunk(f, far, l5), hunk(f, l5, far), hunk(f, l4, l5, far)} {
				if clash.Ops(long, b) != 0 || clash.Ops(b, long) != 0 {
					t.Error(n, i, b.Left, b.Right)
				}
			}
		}
	}
}

// held tells whether two patches' clashes are as the chapter's words tell them, both ways.
func held(t *testing.T, p, q api.Patch) {
	t.Helper()
	want := slowPairs(p, q)
	if got := clash.Pairs(p, q); !slices.Equal(got, want) {
		t.Fatal(p, q, got, want)
	}
	first := 0
	if len(want) > 0 {
		first = slowOps(p.Ops[want[0][0]], q.Ops[want[0][1]])
	}
	if got := clash.Patches(p, q); got != first {
		t.Fatal(p, q, got, first)
	}
	var back [][2]int
	for _, x := range clash.Pairs(q, p) {
		back = append(back, [2]int{x[1], x[0]})
	}
	slices.SortFunc(back, func(a, b [2]int) int { return slices.Compare(a[:], b[:]) })
	if !slices.Equal(back, want) || (clash.Patches(q, p) == 0) != (first == 0) {
		t.Fatal(p, q, back, want)
	}
}

// TestPatches: P15.2, P15.3, each two patches of one operation, and drawn ones of up to eight.
func TestPatches(t *testing.T) {
	all := append(allHunks(), allPlaced()...)
	for i := 0; i < len(all); i += 7 {
		for j := 0; j < len(all); j += 5 {
			held(t, doing(all[i]), doing(all[j]))
		}
	}
	r := rand.New(rand.NewPCG(15, 2))
	draw := func() api.Patch {
		p := api.Patch{Name: "p" + strconv.Itoa(r.IntN(3))}
		for range r.IntN(9) {
			p.Ops = append(p.Ops, all[r.IntN(len(all))])
		}
		return p
	}
	for range 30000 {
		held(t, draw(), draw())
	}
}

// TestPatchesTold: P15.2, the order of pairs, and which one tells why.
func TestPatchesTold(t *testing.T) {
	root := ident.Root()
	h, k := hunk(f, l1, l2), hunk(f, l1, l3)
	x, y := at(api.OFile, g, root, "x"), at(api.OFile, f, root, "x")
	apart := at(api.ODir, d, root, "apart")
	for _, c := range []struct {
		p, q  api.Patch
		pairs [][2]int
		why   int
	}{
		{doing(), doing(), nil, 0},
		{doing(h), doing(), nil, 0},
		{doing(), doing(h), nil, 0},
		{doing(apart), doing(h, x), nil, 0},
		{doing(h), doing(k), [][2]int{{0, 0}}, 1},
		{doing(apart, h), doing(x, k), [][2]int{{1, 1}}, 1},
		{doing(h, x), doing(k, y), [][2]int{{0, 0}, {1, 1}}, 1},
		// The first one is the first one of p, whatever stands first in q: so the other way round it is another one.
		{doing(h, x), doing(y, k), [][2]int{{0, 1}, {1, 0}}, 1},
		{doing(y, k), doing(h, x), [][2]int{{0, 1}, {1, 0}}, 3},
		{doing(x, h), doing(y, x, k, h), [][2]int{{0, 0}, {0, 1}, {1, 2}, {1, 3}}, 3},
		{doing(x, x), doing(x, x), [][2]int{{0, 0}, {0, 1}, {1, 0}, {1, 1}}, 3},
	} {
		if got := clash.Pairs(c.p, c.q); !slices.Equal(got, c.pairs) {
			t.Error(c.p, c.q, got, c.pairs)
		}
		if got := clash.Patches(c.p, c.q); got != c.why {
			t.Error(c.p, c.q, got, c.why)
		}
	}
}

// TestPatchesNames: P15.2, that names, and what patches hang on, are not asked for: a patch clashes with itself, too.
func TestPatchesNames(t *testing.T) {
	p := api.Patch{Name: "a", Ops: []api.Op{at(api.OFile, f, ident.Root(), "x")}}
	for _, q := range []api.Patch{{Name: "a"}, {Name: "b"}, {Name: "b", Deps: []string{"a"}}, {Name: "\xff", Deps: []string{"", "A", ""}}} {
		q.Ops = p.Ops
		if clash.Patches(p, q) != 3 || clash.Patches(q, p) != 3 || !slices.Equal(clash.Pairs(p, q), [][2]int{{0, 0}}) {
			t.Error(q)
		}
	}
}

// TestPatchesBig: P15.2, R1, patches of as many operations as there may be.
func TestPatchesBig(t *testing.T) {
	var p, q api.Patch
	for i := range api.MaxOps {
		p.Ops = append(p.Ops, hunk(f, api.Id{Patch: "p", N: 3 * i}, api.Id{Patch: "p", N: 3*i + 2}, api.Id{Patch: "p", N: 3*i + 1}))
		q.Ops = append(q.Ops, hunk(f, api.Id{Patch: "q", N: 3 * i}, api.Id{Patch: "q", N: 3*i + 2}, api.Id{Patch: "q", N: 3*i + 1}))
	}
	if clash.Patches(p, q) != 0 || len(clash.Pairs(p, q)) != 0 {
		t.Error("apart")
	}
	last := api.MaxOps - 1
	q.Ops[0].Dels = p.Ops[last].Dels
	if clash.Patches(p, q) != 1 || !slices.Equal(clash.Pairs(p, q), [][2]int{{last, 0}}) {
		t.Error("last")
	}
	if clash.Patches(q, p) != 1 || !slices.Equal(clash.Pairs(q, p), [][2]int{{0, last}}) {
		t.Error("first")
	}
	for i := range 500 {
		p.Ops[i].Left = l1
	}
	all := clash.Pairs(api.Patch{Ops: p.Ops[:500]}, api.Patch{Ops: p.Ops[:500]})
	if len(all) != 500*500 || all[0] != [2]int{0, 0} || all[501] != [2]int{1, 1} || all[len(all)-1] != [2]int{499, 499} {
		t.Error("each with each")
	}
}

// roomy is a patch whose lists have room behind them, with something of the caller's in it.
func roomy() (api.Patch, func() string) {
	dels := append(row("p", 12), l1, l2)
	ops := []api.Op{hunk(f, l4, l5), at(api.OGone, f, d, "x"), move(g, d, "x", d, "y"), hunk(g, l1, l2), hunk(f, l5, l4)}
	ops[0].Dels = dels[:12]
	ops[3].Dels = dels[3:6]
	names := []string{"a", "b", "c"}
	p := api.Patch{Name: "p", Deps: names[:1], Ops: ops[:4]}
	return p, func() string { return fmt.Sprint(p, dels, ops, names) }
}

// TestMemory: R3, R4: what is handed in stays as it is, what is told is new memory, and told again.
func TestMemory(t *testing.T) {
	p, all := roomy()
	q, other := roomy()
	was, wasOther := all(), other()
	first := clash.Pairs(p, q)
	second := clash.Pairs(p, q)
	why := clash.Patches(p, q)
	for _, a := range p.Ops {
		for _, b := range q.Ops {
			clash.Ops(a, b)
		}
		clash.Places(a)
	}
	if all() != was || other() != wasOther {
		t.Error("changed")
	}
	if len(first) == 0 || !slices.Equal(first, second) || clash.Patches(p, q) != why {
		t.Error("told again")
	}
	first[0] = [2]int{-1, -1}
	if second[0] == first[0] || clash.Pairs(p, q)[0] == first[0] {
		t.Error("pairs shared")
	}
	places := clash.Places(p.Ops[2])
	again := clash.Places(p.Ops[2])
	places[0][1], places[1][0] = "z", "z"
	if !slices.Equal(again, slowPlaces(p.Ops[2])) || !slices.Equal(clash.Places(p.Ops[2]), again) || all() != was {
		t.Error("places shared")
	}
}
