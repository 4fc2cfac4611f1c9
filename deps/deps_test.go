package deps_test

import (
	"fmt"
	"math/rand/v2"
	"slices"
	"strconv"
	"strings"
	"testing"

	"rafter/api"
	"rafter/deps"
	"rafter/ident"
	"rafter/patch"
)

// named is a patch without operations.
func named(name string, deps ...string) api.Patch { return api.Patch{Name: name, Deps: deps} }

// list is a list of patches.
func list(l ...api.Patch) []api.Patch { return l }

// texts is a list of texts.
func texts(l ...string) []string { return l }

// maker is a patch that makes a file with a line, and hangs on others.
func maker(name, line string, deps ...string) api.Patch {
	x := api.Id{Patch: name}
	return api.Patch{Name: name, Deps: deps, Ops: []api.Op{
		{Kind: api.OFile, Self: x, Name: "f"},
		{Kind: api.OHunk, Self: x, Left: ident.Begin(), Right: ident.End(), First: 1, Lines: texts(line)},
		{Kind: api.OHunk, Self: x, Left: ident.Begin(), Right: ident.End(), Dels: []api.Id{{Patch: name, N: 1}}, First: 2},
	}}
}

// told tells patches in few words.
func told(l ...api.Patch) string {
	var s strings.Builder
	for _, p := range l[:min(len(l), 8)] {
		s.WriteString(fmt.Sprintf(" %.50q%.200q", p.Name, p.Deps))
	}
	return strconv.Itoa(len(l)) + ":" + s.String()
}

// same tells whether lists have the same patches, in one order.
func same(a, b []api.Patch) bool { return slices.EqualFunc(a, b, patch.Same) }

// deep is a list of the same patches, that shares no memory with it.
func deep(l []api.Patch) []api.Patch {
	var c []api.Patch
	for _, p := range l {
		ops := p.Ops
		p.Deps, p.Ops = append(texts(), p.Deps...), nil
		for _, o := range ops {
			o.Dels, o.Lines = append([]api.Id{}, o.Dels...), append(texts(), o.Lines...)
			p.Ops = append(p.Ops, o)
		}
		c = append(c, p)
	}
	return c
}

// slowSet tells texts as a set.
func slowSet(l []string) []string {
	var set []string
	for _, s := range l {
		if !slices.Contains(set, s) {
			set = append(set, s)
		}
	}
	slices.Sort(set)
	return set
}

// slowNames, slowPick, slowAll and slowUsers do as the words of the chapter say.
func slowNames(l []api.Patch) []string {
	var names []string
	for _, p := range l {
		names = append(names, p.Name)
	}
	return slowSet(names)
}
func slowPick(l []api.Patch, names []string) []api.Patch {
	var some []api.Patch
	for _, p := range l {
		if slices.Contains(names, p.Name) {
			some = append(some, p)
		}
	}
	return some
}
func slowAll(l []api.Patch, names []string) []string {
	all := slices.Clone(names)
	for _, p := range slowPick(l, names) {
		all = append(all, p.Deps...)
	}
	return slowSet(all)
}
func slowUsers(l []api.Patch, names []string) []string {
	var users []string
	for _, p := range l {
		for _, s := range names {
			if p.Name == s || slices.Contains(p.Deps, s) {
				users = append(users, p.Name)
			}
		}
	}
	return slowSet(users)
}

// slowRound tells whether a patch of a set hangs on itself, through others.
func slowRound(l []api.Patch, p api.Patch) bool {
	under := slices.Clone(p.Deps)
	for range l {
		for _, q := range slowPick(l, under) {
			under = slowSet(append(under, q.Deps...))
		}
	}
	return slices.Contains(under, p.Name)
}

// slowClosed does as the words of the chapter say: is a set closed?
func slowClosed(l []api.Patch) bool {
	for _, p := range l {
		for _, s := range p.Deps {
			if !slices.Contains(slowNames(l), s) {
				return false
			}
		}
		for _, q := range slowPick(l, p.Deps) {
			for _, s := range q.Deps {
				if !slices.Contains(p.Deps, s) {
					return false
				}
			}
		}
		if slowRound(l, p) {
			return false
		}
	}
	return true
}

// slowCheck does as the words of the chapter say: may a set be?
func slowCheck(l []api.Patch) api.Errno {
	for _, p := range l {
		if e := patch.Check(p); e != api.OK {
			return e
		}
	}
	if len(slowNames(l)) < len(l) {
		return api.ErrTwice
	}
	if !slowClosed(l) {
		return api.ErrOrder
	}
	return api.OK
}

// slowOrdered does as the words of the chapter say: is each behind all that it hangs on?
func slowOrdered(l []api.Patch) bool {
	for i, p := range l {
		for _, q := range l[i:] {
			if slices.Contains(p.Deps, q.Name) {
				return false
			}
		}
	}
	return true
}

// slowNext tells which of those that have not come may come next: the one of the least name; -1: none may.
func slowNext(left []api.Patch) int {
	next := -1
	for i, p := range left {
		if len(slowPick(left, p.Deps)) == 0 && (next < 0 || p.Name < left[next].Name) {
			next = i
		}
	}
	return next
}

// slowOrder does as the words of the chapter say: the patches in order.
func slowOrder(l []api.Patch) []api.Patch {
	var row []api.Patch
	left := slices.Clone(l)
	for i := slowNext(left); i >= 0; i = slowNext(left) {
		row = append(row, left[i])
		left = slices.Delete(left, i, i+1)
	}
	return row
}

// slowBeside does as the words of the chapter say: are two, that are not one, side by side?
func slowBeside(p, q api.Patch) bool {
	return p.Name != q.Name && !slices.Contains(p.Deps, q.Name) && !slices.Contains(q.Deps, p.Name)
}

// whole looks at what is told of a list alone.
func whole(t *testing.T, l []api.Patch) {
	t.Helper()
	if got, want := deps.Names(l), slowNames(l); !slices.Equal(got, want) {
		t.Errorf("Names of %s = %.200q, want %.200q", told(l...), got, want)
	}
	if got, want := deps.Check(l), slowCheck(l); got != want {
		t.Errorf("Check of %s = %d, want %d", told(l...), got, want)
	}
	if got, want := deps.Ordered(l), slowOrdered(l); got != want {
		t.Errorf("Ordered of %s = %v, want %v", told(l...), got, want)
	}
	if got, want := deps.Order(l), slowOrder(l); !same(got, want) {
		t.Errorf("Order of %s = %s, want %s", told(l...), told(got...), told(want...))
	}
}

// asked looks at what is told of a list, and names.
func asked(t *testing.T, l []api.Patch, names ...string) {
	t.Helper()
	if got, want := deps.Pick(l, names...), slowPick(l, names); !same(got, want) {
		t.Errorf("Pick of %s, %.200q = %s, want %s", told(l...), names, told(got...), told(want...))
	}
	all := slowAll(l, names)
	if got := deps.All(l, names...); !slices.Equal(got, all) {
		t.Errorf("All of %s, %.200q = %.200q, want %.200q", told(l...), names, got, all)
	}
	if got, want := deps.Users(l, names...), slowUsers(l, names); !slices.Equal(got, want) {
		t.Errorf("Users of %s, %.200q = %.200q, want %.200q", told(l...), names, got, want)
	}
	wrong := api.OK
	for _, s := range names {
		if !slices.Contains(slowNames(l), s) {
			all, wrong = nil, api.ErrNone
		}
	}
	if got, e := deps.Need(l, names...); e != wrong || !slices.Equal(got, all) {
		t.Errorf("Need of %s, %.200q = %.200q %d, want %.200q %d", told(l...), names, got, e, all, wrong)
	}
}

// looked looks whether a name is found just if there is a patch of it, and the first one then.
func looked(t *testing.T, l []api.Patch, s string) {
	t.Helper()
	want := append(slowPick(l, texts(s)), api.Patch{})
	if got, ok := deps.Find(l, s); ok != (len(want) > 1) || !patch.Same(got, want[0]) {
		t.Errorf("Find of %s, %.50q = %s %v, want %s", told(l...), s, told(got), ok, told(want[0]))
	}
}

// one looks at a list, with many names.
func one(t *testing.T, l []api.Patch) {
	t.Helper()
	whole(t, l)
	for _, names := range [][]string{nil, {"a"}, {"b"}, {"c"}, {"d"}, {"a", "b"}, {"c", "a"}, {"b", "b"}, {"b", "d", "a"}, {"c", "b", "a", "c"}, {""}, {"A", "a"}} {
		asked(t, l, names...)
	}
	for _, s := range texts("a", "b", "c", "d", "", "A") {
		looked(t, l, s)
	}
}

// subsets are all lists of some of these, in their order.
func subsets(l ...string) [][]string {
	all := [][]string{nil}
	for _, s := range l {
		for _, some := range all {
			all = append(all, append(slices.Clone(some), s))
		}
	}
	return all
}

// P14.1 to P14.3: all lists of up to three patches of three names, that hang on any of four, on themselves, too: such that may be a set, and such that may not.
func TestEachList(t *testing.T) {
	var all []api.Patch
	for _, s := range texts("a", "b", "c") {
		for _, l := range subsets("a", "b", "c", "d") {
			all = append(all, named(s, l...))
		}
	}
	one(t, nil)
	one(t, list())
	for _, p := range all {
		one(t, list(p))
		for _, q := range all {
			one(t, list(p, q))
			if got := deps.Beside(p, q); got != slowBeside(p, q) {
				t.Errorf("Beside of %s = %v", told(p, q), got)
			}
			for _, r := range all {
				whole(t, list(p, q, r))
			}
		}
		if t.Failed() {
			t.FailNow()
		}
	}
	for i := range 20000 {
		one(t, list(all[i*7%48], all[i*31%47], all[i*5%43]))
	}
}

// orders calls f with these in each order.
func orders(l []api.Patch, f func(l []api.Patch)) {
	var turn func(n int)
	turn = func(n int) {
		if n == len(l) {
			f(l)
		}
		for i := n; i < len(l); i++ {
			l[n], l[i] = l[i], l[n]
			turn(n + 1)
			l[n], l[i] = l[i], l[n]
		}
	}
	turn(0)
}

// P14.2, P14.3: all four patches that hang on one another in any way, in each order of a list: what may be is the same whatever the order, and Order has all of it.
func TestFour(t *testing.T) {
	right := 0
	for _, a := range subsets("b", "c", "d") {
		for _, b := range subsets("a", "c", "d") {
			for _, c := range subsets("a", "b", "d") {
				for _, d := range subsets("a", "b", "c") {
					l := list(named("a", a...), named("b", b...), named("c", c...), named("d", d...))
					e, row := slowCheck(l), slowOrder(l)
					if e == api.OK {
						right++
					}
					if e == api.OK && len(row) != 4 {
						t.Fatalf("the words leave some of %s out", told(l...))
					}
					orders(l, func(l []api.Patch) {
						if got := deps.Check(l); got != e {
							t.Fatalf("Check of %s = %d, want %d", told(l...), got, e)
						}
						if got := deps.Order(l); !same(got, row) || !deps.Ordered(got) {
							t.Fatalf("Order of %s = %s, want %s", told(l...), told(got...), told(row...))
						}
						if got := deps.Ordered(l); got != slowOrdered(l) {
							t.Fatalf("Ordered of %s = %v", told(l...), got)
						}
					})
				}
			}
		}
	}
	// As many as there are orders of four things, some of which are side by side.
	if right != 219 {
		t.Errorf("%d sets of four may be", right)
	}
}

// drawn is a set of n patches, in no order, of which each hangs on some of others, and on all that these hang on; one of three hangs on nothing more.
func drawn(r *rand.Rand, n int) []api.Patch {
	var l []api.Patch
	for i := range n {
		p := named("p" + strconv.Itoa(r.IntN(900)+100) + "-" + strconv.Itoa(i))
		for _, q := range l {
			if i%3 > 0 && r.IntN(n) < 3 {
				p.Deps = slowSet(append(append(p.Deps, q.Name), q.Deps...))
			}
		}
		l = append(l, p)
	}
	r.Shuffle(n, func(i, k int) { l[i], l[k] = l[k], l[i] })
	return l
}

// P14.1 to P14.3: greater sets, that may be; the same with a name less, or one more, in some patch's Deps, and without a patch.
func TestDrawn(t *testing.T) {
	r := rand.New(rand.NewPCG(14, 2))
	errors := map[api.Errno]int{}
	for range 3000 {
		l := drawn(r, 2+r.IntN(14))
		whole(t, l)
		if e := deps.Check(l); e != api.OK {
			t.Fatalf("Check of %s = %d", told(l...), e)
		}
		names := slowNames(l)
		r.Shuffle(len(names), func(i, k int) { names[i], names[k] = names[k], names[i] })
		asked(t, l, names[:r.IntN(len(names))]...)
		i, k := r.IntN(len(l)), r.IntN(len(l))
		less := deep(l)
		if n := len(l[i].Deps); n > 0 {
			less[i].Deps = slices.Delete(less[i].Deps, k%n, k%n+1)
		}
		more := deep(l)
		more[i].Deps = slowSet(append(more[i].Deps, l[k].Name))
		without := slices.Delete(deep(l), i, i+1)
		twice := append(deep(l), l[i])
		for _, l := range [][]api.Patch{less, more, without, twice} {
			whole(t, l)
			asked(t, l, names[:r.IntN(len(names))]...)
			errors[deps.Check(l)]++
		}
		if t.Failed() {
			t.FailNow()
		}
	}
	for _, e := range []api.Errno{api.OK, api.ErrArg, api.ErrTwice, api.ErrOrder} {
		if errors[e] < 50 {
			t.Errorf("error %d comes up %d times", e, errors[e])
		}
	}
}

// P14.2, R2: a patch's own error is told ahead of two of one name, and of what is not closed: the first one's.
func TestCheckFirst(t *testing.T) {
	noName, noArg, far := named("A"), named("b", "c", "a"), named("e", "z")
	for _, x := range []struct {
		l    []api.Patch
		want api.Errno
	}{
		{nil, api.OK}, {list(named("a")), api.OK}, {list(api.Patch{}), api.ErrName}, {list(named("a"), api.Patch{}), api.ErrName}, {list(noName), api.ErrName}, {list(noArg), api.ErrArg}, {list(far), api.ErrOrder},
		{list(named("a", "a")), api.ErrArg}, {list(named("a"), named("b", "")), api.ErrName}, {list(named("a"), named("b", "a", "a")), api.ErrArg}, {list(named("a"), named("b"), named("c", "b", "a")), api.ErrArg},
		{list(noName, noArg), api.ErrName}, {list(noArg, noName), api.ErrArg}, {list(named("a"), noArg, noName), api.ErrArg}, {list(far, named("a"), named("a"), noName, noArg), api.ErrName},
		{list(named("a"), named("a"), noArg), api.ErrArg}, {list(far, far), api.ErrTwice}, {list(named("a"), far, named("a")), api.ErrTwice}, {list(named("a"), named("b"), named("a", "b")), api.ErrTwice}, {list(named("a", "b"), named("a")), api.ErrTwice},
		{list(named("a"), named("a")), api.ErrTwice}, {list(maker("a", "x"), maker("a", "y")), api.ErrTwice}, {list(maker("a", "x"), maker("b", "y", "a")), api.OK},
		{list(named("a"), api.Patch{Name: "b", Ops: []api.Op{{Kind: api.OGone, Self: api.Id{Patch: "a"}, Name: "x"}}}), api.ErrArg}, {list(named("a"), api.Patch{Name: "b", Deps: texts("a"), Ops: []api.Op{{Kind: api.OGone, Self: api.Id{Patch: "a"}, Name: "x"}}}), api.OK},
		{list(named("b", "a"), named("a")), api.OK}, {list(named("a", "b"), named("b", "a")), api.ErrOrder}, {list(named("a", "b"), named("b")), api.OK}, {list(named("a"), named("b", "a"), named("c", "b")), api.ErrOrder}, {list(named("a"), named("b", "a"), named("c", "a")), api.OK},
		{list(named("a", "b", "c"), named("b", "a", "c"), named("c", "a", "b")), api.ErrOrder}, {list(named("a", "b"), named("b", "c"), named("c", "a")), api.ErrOrder}, {list(named("a"), named("c", "a", "b")), api.ErrOrder},
	} {
		if got := deps.Check(x.l); got != x.want {
			t.Errorf("Check of %s = %d, want %d", told(x.l...), got, x.want)
		}
		if e := slowCheck(x.l); e != x.want {
			t.Errorf("the words say %d of %s, not %d", e, told(x.l...), x.want)
		}
		whole(t, x.l)
	}
}

// P14.2: what goes round about is left out, and all that hangs on it; names that are not there keep nobody back.
func TestOrder(t *testing.T) {
	for _, x := range []struct {
		l, want []api.Patch
		ordered bool
	}{
		{nil, nil, true}, {list(named("a")), list(named("a")), true}, {list(named("a", "z")), list(named("a", "z")), true}, {list(named("a", "a")), nil, false}, {list(named("a", "a"), named("b")), list(named("b")), false},
		{list(named("b"), named("a")), list(named("a"), named("b")), true}, {list(named("a", "b"), named("b")), list(named("b"), named("a", "b")), false}, {list(named("c"), named("a", "c"), named("b")), list(named("b"), named("c"), named("a", "c")), true},
		{list(named("a", "b"), named("b", "a")), nil, false}, {list(named("x", "y"), named("y", "x"), named("a"), named("z", "y"), named("w", "z", "a")), list(named("a")), false}, {list(named("b", "z", "a"), named("a", "y")), list(named("a", "y"), named("b", "z", "a")), false},
		// Each as soon as it may, not by how deep it lies.
		{list(named("z"), named("b"), named("a", "b"), named("c", "z")), list(named("b"), named("a", "b"), named("z"), named("c", "z")), true}, {list(named("d"), named("a", "d"), named("b", "a"), named("e"), named("c", "b", "e")), list(named("d"), named("a", "d"), named("b", "a"), named("e"), named("c", "b", "e")), true},
		{list(named("aa"), named("a"), named("a."), named("a-"), named("_"), named("0"), named("Z"), named("")), list(named(""), named("0"), named("Z"), named("_"), named("a"), named("a-"), named("a."), named("aa")), true},
		// Several of one name, in the order of the list; what hangs on the name is behind all of them.
		{list(maker("a", "y"), maker("a", "x"), named("b", "a")), list(maker("a", "y"), maker("a", "x"), named("b", "a")), true}, {list(named("a"), named("b", "a"), named("a", "z")), list(named("a"), named("a", "z"), named("b", "a")), false}, {list(named("a", "b"), named("a"), named("b")), list(named("a"), named("b"), named("a", "b")), false},
		{list(named("a"), named("a", "b"), named("b", "a")), list(named("a")), false}, {list(named("b", "a", "a"), named("a")), list(named("a"), named("b", "a", "a")), false}, {list(named("a"), named("b", "c", "a", "c"), named("c")), list(named("a"), named("c"), named("b", "c", "a", "c")), false},
	} {
		if got := deps.Order(x.l); !same(got, x.want) || !deps.Ordered(got) {
			t.Errorf("Order of %s = %s, want %s", told(x.l...), told(got...), told(x.want...))
		}
		if got := deps.Ordered(x.l); got != x.ordered {
			t.Errorf("Ordered of %s = %v", told(x.l...), got)
		}
		whole(t, x.l)
	}
}

// P14.2, R6: of very many of one name the first one listed comes first.
func TestOrderOfOneName(t *testing.T) {
	var l []api.Patch
	for i := range 300 {
		l = append(l, maker(texts("c", "a", "b")[i%3], strconv.Itoa(i)))
	}
	want := slices.Concat(slowPick(l, texts("a")), slowPick(l, texts("b")), slowPick(l, texts("c")))
	if got := deps.Order(l); !same(got, want) {
		t.Errorf("Order of 300 of three names = %s", told(got...))
	}
	whole(t, l)
}

// row is a row of n patches, each of which hangs on all ahead of it; their names fall.
func row(n int) []api.Patch {
	var l []api.Patch
	var names []string
	for i := range n {
		s := "p" + strconv.Itoa(2000000-i)
		l = append(l, named(s, names...))
		names = append(texts(s), names...)
	}
	return l
}

// P14.1 to P14.3: a set as great as a repository's, each hanging on all ahead of it: whichever is missing, out of its place, or not known to another one, is told.
func TestRow(t *testing.T) {
	l := row(500)
	back := deep(l)
	slices.Reverse(back)
	for _, some := range [][]api.Patch{l, back} {
		if e := deps.Check(some); e != api.OK {
			t.Errorf("Check = %d", e)
		}
		if got := deps.Order(some); !same(got, l) {
			t.Errorf("Order = %s", told(got...))
		}
	}
	if !deps.Ordered(l) || deps.Ordered(back) {
		t.Error("Ordered")
	}
	if all, e := deps.Need(l, l[499].Name); e != api.OK || !slices.Equal(all, deps.Names(l)) || !slices.Equal(deps.Users(l, l[0].Name), all) {
		t.Errorf("Need of all = %d: %d", e, len(all))
	}
	for _, i := range []int{0, 1, 2, 50, 250, 498} {
		if got := deps.Users(l, l[i].Name); len(got) != 500-i {
			t.Errorf("%d use %d", len(got), i)
		}
		without := slices.Delete(slices.Clone(l), i, i+1)
		if e := deps.Check(without); e != api.ErrOrder || !deps.Ordered(without) || !same(deps.Order(without), without) {
			t.Errorf("Check without %d = %d", i, e)
		}
		swapped := slices.Clone(l)
		swapped[i], swapped[i+1] = swapped[i+1], swapped[i]
		if deps.Ordered(swapped) || deps.Check(swapped) != api.OK || !same(deps.Order(swapped), l) {
			t.Errorf("%d behind the next one", i)
		}
		for _, k := range []int{i + 1, (i + 500) / 2, 499} {
			unknown := deep(l)
			unknown[k].Deps = slices.DeleteFunc(unknown[k].Deps, func(s string) bool { return s == l[i].Name })
			want := api.ErrOrder
			// None that it hangs on hangs on the one just ahead of it.
			if i == k-1 {
				want = api.OK
			}
			if e := deps.Check(unknown); e != want {
				t.Errorf("Check where %d knows nothing of %d = %d, want %d", k, i, e, want)
			}
		}
	}
}

// rowOfOne is a row of n patches, each of which says that it hangs on the one ahead alone; round, if the first one hangs on the last one.
func rowOfOne(n int, round bool) []api.Patch {
	name := func(i int) string { return "p" + strconv.Itoa(2000000-(i+n)%n) }
	var l []api.Patch
	for i := range n {
		l = append(l, named(name(i)))
		if i > 0 || round {
			l[i].Deps = texts(name(i - 1))
		}
	}
	return l
}

// R1: far more than a repository has comes to an end, too: those without Deps, those that hang on one alone, and those that go round about; of one name all of them.
func TestMany(t *testing.T) {
	const n = 100000
	free := rowOfOne(n, false)
	for i := range free {
		free[i].Deps = nil
	}
	if e := deps.Check(free); e != api.OK || len(deps.Order(free)) != n || !deps.Ordered(free) || len(deps.Names(free)) != n {
		t.Errorf("Check of %d = %d", n, e)
	}
	l := rowOfOne(n, false)
	if e := deps.Check(l); e != api.ErrOrder || !same(deps.Order(l), l) || !deps.Ordered(l) {
		t.Errorf("Check of a row of %d = %d", n, e)
	}
	names := deps.Names(l)
	if all, e := deps.Need(l, names...); e != api.OK || !slices.Equal(all, names) || !slices.Equal(deps.Users(l, names...), names) || len(deps.Pick(l, names...)) != n {
		t.Errorf("Need of all = %d %d", len(all), e)
	}
	slices.Reverse(l)
	if got := deps.Order(l); len(got) != n || deps.Ordered(l) || !deps.Ordered(got) {
		t.Errorf("Order of a row of %d, the last one first, has %d", n, len(got))
	}
	l = rowOfOne(n, true)
	if e := deps.Check(l); e != api.ErrOrder || len(deps.Order(l)) != 0 || deps.Ordered(l) {
		t.Errorf("Check of a round of %d = %d", n, e)
	}
	twice := slices.Repeat(list(named("a")), n)
	if e := deps.Check(twice); e != api.ErrTwice || !same(deps.Order(twice), twice) || len(deps.Pick(twice, "a")) != n || !deps.Ordered(twice) {
		t.Errorf("Check of one %d times = %d", n, e)
	}
	wide := append(slices.Clone(free), named("a", deps.Names(free)...))
	if e := deps.Check(wide); e != api.OK || len(deps.All(wide, "a")) != n+1 || len(deps.Users(wide, free[7].Name)) != 2 || len(deps.Order(wide)) != n+1 {
		t.Errorf("Check of one that hangs on %d = %d", n, e)
	}
}

// P14.3: side by side are two, that are not one, if neither's name is in the other's Deps, whatever their Deps have more.
func TestBeside(t *testing.T) {
	for _, x := range []struct {
		p, q api.Patch
		want bool
	}{
		{named("a"), named("b"), true}, {named("a"), named("a"), false}, {maker("a", "x"), maker("a", "x"), false}, {maker("a", "x"), maker("a", "y", "z"), false}, {api.Patch{}, api.Patch{}, false},
		{named("a"), named("b", "a"), false}, {named("a", "b"), named("b", "a"), false}, {named("a", "c"), named("b", "c"), true}, {named("a", "c", "d"), named("b", "aa", "c"), true}, {named("a"), named("b", "z", "a", "c"), false},
		{named("a", "m"), named("b", "l", "m"), true}, {named("a"), named("aa", "aaa"), true}, {named("c", "b"), named("a"), true}, {named(""), named("a", ""), false}, {named("A"), named("a"), true}, {maker("a", "x"), maker("b", "x"), true},
	} {
		if deps.Beside(x.p, x.q) != x.want || deps.Beside(x.q, x.p) != x.want {
			t.Errorf("Beside of %s = %v, %v, want %v", told(x.p, x.q), deps.Beside(x.p, x.q), deps.Beside(x.q, x.p), x.want)
		}
	}
}

// P14.1, P14.3: the chapter's example, and others, of a set; what is told goes one step along Deps, and no further, where a set is not closed.
func TestAsked(t *testing.T) {
	l := list(named("c", "a", "b"), named("a"), named("b", "a"), named("d"))
	for _, x := range []struct{ names, all, users []string }{
		{nil, nil, nil}, {texts("a"), texts("a"), texts("a", "b", "c")}, {texts("b"), texts("a", "b"), texts("b", "c")}, {texts("c"), texts("a", "b", "c"), texts("c")}, {texts("d"), texts("d"), texts("d")}, {texts("d", "b", "d"), texts("a", "b", "d"), texts("b", "c", "d")}, {texts("d", "c", "b", "a"), texts("a", "b", "c", "d"), texts("a", "b", "c", "d")},
	} {
		if got, e := deps.Need(l, x.names...); !slices.Equal(got, x.all) || e != api.OK || !slices.Equal(deps.All(l, x.names...), x.all) {
			t.Errorf("Need, All of %q = %q %d, %q, want %q", x.names, got, e, deps.All(l, x.names...), x.all)
		}
		if got := deps.Users(l, x.names...); !slices.Equal(got, x.users) {
			t.Errorf("Users of %q = %q, want %q", x.names, got, x.users)
		}
	}
	for _, names := range [][]string{{"z"}, {"a", "z"}, {"z", "a"}, {"a", "b", "c", "d", "e"}, {""}, {"a", ""}, {"A"}, {"a#0"}, {strings.Repeat("a", 1<<16)}} {
		if got, e := deps.Need(l, names...); e != api.ErrNone || len(got) != 0 {
			t.Errorf("Need of %.50q = %q %d", names, got, e)
		}
		asked(t, l, names...)
		asked(t, nil, names...)
	}
	open := list(named("c", "b"), named("b", "a"), named("e", "f"))
	if got, e := deps.Need(open, "c"); !slices.Equal(got, texts("b", "c")) || e != api.OK || !slices.Equal(deps.All(open, "c", "a"), texts("a", "b", "c")) || !slices.Equal(deps.Users(open, "a"), texts("b")) || !slices.Equal(deps.Users(open, "f"), texts("e")) {
		t.Errorf("Need of c = %q %d", got, e)
	}
	if _, e := deps.Need(open, "a"); e != api.ErrNone {
		t.Errorf("Need of what is hung on alone = %d", e)
	}
}

// P14.1: of several of one name Find tells the first one, Pick all, in their order, with all that they do.
func TestFindPick(t *testing.T) {
	l := list(maker("b", "1"), maker("a", "2", "z"), maker("b", "3", "a"), named("c"), maker("a", "4"))
	for _, x := range []struct {
		s    string
		want api.Patch
		ok   bool
	}{{"b", l[0], true}, {"a", l[1], true}, {"c", l[3], true}, {"z", api.Patch{}, false}, {"", api.Patch{}, false}, {"bb", api.Patch{}, false}} {
		if got, ok := deps.Find(l, x.s); ok != x.ok || !patch.Same(got, x.want) {
			t.Errorf("Find of %q = %s %v", x.s, told(got), ok)
		}
	}
	for _, x := range []struct {
		names []string
		want  []api.Patch
	}{
		{nil, nil}, {texts("z"), nil}, {texts("a"), list(l[1], l[4])}, {texts("c", "b"), list(l[0], l[2], l[3])}, {texts("a", "b", "c"), l}, {texts("c", "z", "b", "a", "c", "c"), l}, {texts(""), nil},
	} {
		if got := deps.Pick(l, x.names...); !same(got, x.want) {
			t.Errorf("Pick of %q = %s, want %s", x.names, told(got...), told(x.want...))
		}
	}
	if got := deps.Names(l); !slices.Equal(got, texts("a", "b", "c")) {
		t.Errorf("Names = %q", got)
	}
}

// overwrite changes a patch's lists, with the room behind them.
func overwrite(p api.Patch) {
	for i := range p.Deps[:cap(p.Deps)] {
		p.Deps[:cap(p.Deps)][i] = "changed"
	}
	for _, o := range p.Ops {
		for i := range o.Dels[:cap(o.Dels)] {
			o.Dels[:cap(o.Dels)][i] = api.Id{Patch: "changed"}
		}
		for i := range o.Lines[:cap(o.Lines)] {
			o.Lines[:cap(o.Lines)][i] = "changed"
		}
	}
	for i := range p.Ops[:cap(p.Ops)] {
		p.Ops[:cap(p.Ops)][i] = api.Op{Name: "changed"}
	}
}

// overwriteAll changes a list of patches, and of texts, with the room behind them.
func overwriteAll(l []api.Patch, names []string) {
	for _, p := range l {
		overwrite(p)
	}
	for i := range l[:cap(l)] {
		l[:cap(l)][i] = named("changed", "changed")
	}
	for i := range names[:cap(names)] {
		names[:cap(names)][i] = "changed"
	}
}

// spare are patches, in no order, and names, with room behind them, and the same with that room.
func spare() (l []api.Patch, names []string, all []api.Patch, allNames []string) {
	room := texts("a", "b", "spare", "spare")
	all = list(maker("c", "x", room[:2]...), maker("b", "y", room[:1]...), maker("a", "z"), named("spare"), named("spare"))
	allNames = texts("c", "a", "c", "b", "spare", "spare")
	return all[:3], allNames[:4], all, allNames
}

// P14.1 to P14.3, R3: what is handed in stays as it is, its spare room too.
func TestHandedIn(t *testing.T) {
	l, names, all, allNames := spare()
	want, wantNames := deep(all), slices.Clone(allNames)
	overwriteAll(deps.Pick(l, names...), deps.Names(l))
	overwriteAll(deps.Order(l), deps.All(l, names...))
	need, e := deps.Need(l, names...)
	overwriteAll(nil, need)
	overwriteAll(nil, deps.Users(l, names...))
	overwriteAll(nil, deps.All(nil, names...))
	p, ok := deps.Find(l, "c")
	overwrite(p)
	if !ok || e != api.OK || deps.Check(l) != api.OK || deps.Ordered(l) || deps.Beside(l[0], l[1]) {
		t.Errorf("%s may not be: %d", told(l...), deps.Check(l))
	}
	if !same(all, want) || !slices.Equal(allNames, wantNames) || !slices.Equal(l[0].Deps[:4], texts("a", "b", "spare", "spare")) {
		t.Errorf("an argument changed: %s %q %q", told(all...), allNames, l[0].Deps[:4])
	}
}

// P14.1, P14.2, R3: what is told is new memory, of which no two patches share any, even where one is told twice.
func TestTold(t *testing.T) {
	l, names, _, _ := spare()
	want := deep(l)
	find, _ := deps.Find(l, "c")
	pick, row := deps.Pick(l, names...), deps.Order(l)
	overwriteAll(l, names)
	if !patch.Same(find, want[0]) || !same(pick, want) || !same(row, list(want[2], want[1], want[0])) {
		t.Errorf("what was told changed: %s, %s, %s", told(find), told(pick...), told(row...))
	}
	twice := list(want[0], want[0])
	for _, got := range [][]api.Patch{deps.Pick(twice, "c"), deps.Order(twice), row} {
		overwrite(got[0])
		if last := got[len(got)-1]; !patch.Same(last, want[0]) {
			t.Errorf("one patch changed with another one: %s", told(last))
		}
	}
}

// R4: a map is gone through in any order; what is told is not.
func TestAgain(t *testing.T) {
	l := drawn(rand.New(rand.NewPCG(4, 4)), 60)
	names := slowNames(l)
	order, open := deps.Order(l), slices.Delete(deep(l), 7, 12)
	for range 50 {
		if !same(deps.Order(l), order) || !slices.Equal(deps.Names(l), names) || !slices.Equal(deps.All(l, names...), names) || deps.Check(l) != api.OK || deps.Check(open) != slowCheck(open) {
			t.Fatal("told otherwise")
		}
	}
}
