package event_test

import (
	"fmt"
	"math/rand/v2"
	"slices"
	"strconv"
	"strings"
	"testing"

	"rafter/api"
	"rafter/clash"
	"rafter/deps"
	"rafter/event"
	"rafter/ident"
	"rafter/patch"
)

// list is a list of patches.
func list(l ...api.Patch) []api.Patch { return l }

// texts is a list of texts.
func texts(l ...string) []string { return l }

// does is a patch that makes a file of each of these names, in the root, and hangs on others.
func does(name, files string, deps ...string) api.Patch {
	p := api.Patch{Name: name, Deps: deps}
	for i, s := range strings.Fields(files) {
		p.Ops = append(p.Ops, api.Op{Kind: api.OFile, Self: api.Id{Patch: name, N: i}, Name: s})
	}
	return p
}

// told tells patches in few words.
func told(l []api.Patch) string {
	var s strings.Builder
	for _, p := range l[:min(len(l), 12)] {
		s.WriteString(fmt.Sprintf(" %s%.200q", p.Name, p.Deps))
		for _, o := range p.Ops[:min(len(p.Ops), 6)] {
			s.WriteString(fmt.Sprintf(" %d:%s", o.Kind, o.Name))
		}
		s.WriteString(";")
	}
	return strconv.Itoa(len(l)) + ":" + s.String()
}

// deep is a list of the same patches, that shares no memory with it.
func deep(l []api.Patch) []api.Patch {
	var c []api.Patch
	for _, p := range l {
		c = append(c, patch.Copy(p))
	}
	return c
}

// find is a patch of a set, by its name.
func find(l []api.Patch, s string) api.Patch {
	return l[slices.IndexFunc(l, func(p api.Patch) bool { return p.Name == s })]
}

// slowOf is what is of a patch: itself, and all that it hangs on.
func slowOf(p api.Patch) []string { return append(texts(p.Name), p.Deps...) }

// slowAlone is what is of one patch, and not of another one.
func slowAlone(p, q api.Patch) []string {
	var alone []string
	for _, s := range slowOf(p) {
		if !slices.Contains(slowOf(q), s) {
			alone = append(alone, s)
		}
	}
	return alone
}

// slowAgainst does as the words of the chapter say: are two patches of a set that may be against one another?
func slowAgainst(l []api.Patch, p, q api.Patch) bool {
	if !deps.Beside(p, q) {
		return false
	}
	for _, s := range slowAlone(p, q) {
		for _, u := range slowAlone(q, p) {
			x, y := find(l, s), find(l, u)
			if deps.Beside(x, y) && clash.Patches(x, y) != 0 {
				return true
			}
		}
	}
	return false
}

// slow is all that the chapter's words tell of a set.
type slow struct {
	against          map[[2]string]bool
	dropped, kept    []string
	conflicts, ended [][2]string
	open             []string
}

// slowThird tells whether a patch has both of these in its Deps.
func slowThird(l []api.Patch, p, q string) bool {
	return slices.ContainsFunc(l, func(r api.Patch) bool { return slices.Contains(r.Deps, p) && slices.Contains(r.Deps, q) })
}

// slowly does as the words of the chapter say.
func slowly(l []api.Patch) slow {
	s := slow{against: map[[2]string]bool{}}
	if deps.Check(l) != api.OK {
		return s
	}
	names := deps.Names(l)
	for _, p := range names {
		dropped := false
		for _, q := range names {
			if !slowAgainst(l, find(l, p), find(l, q)) {
				continue
			}
			s.against[[2]string{p, q}] = true
			dropped = true
			if p < q && slowThird(l, p, q) {
				s.ended = append(s.ended, [2]string{p, q})
			} else if p < q {
				s.conflicts = append(s.conflicts, [2]string{p, q})
			}
		}
		if dropped {
			s.dropped = append(s.dropped, p)
		} else {
			s.kept = append(s.kept, p)
		}
	}
	for _, p := range names {
		if slices.ContainsFunc(s.conflicts, func(c [2]string) bool { return c[0] == p || c[1] == p }) {
			s.open = append(s.open, p)
		}
	}
	return s
}

// one looks whether all that is told of a list is as the words say.
func one(t *testing.T, l []api.Patch) slow {
	t.Helper()
	want := slowly(l)
	sets(t, l, want)
	var names []string
	for _, p := range l {
		names = append(names, p.Name)
	}
	for _, p := range append(texts("", "nobody"), names...) {
		partners(t, l, want, p, names)
		for _, q := range append(texts("", "nobody"), names...) {
			if got := event.Against(l, p, q); got != want.against[[2]string{p, q}] {
				t.Errorf("Against of %s, %q and %q = %v", told(l), p, q, got)
			}
		}
	}
	return want
}

// sets looks at what is told of a list alone.
func sets(t *testing.T, l []api.Patch, want slow) {
	t.Helper()
	for _, x := range []struct {
		what      string
		got, want []string
	}{{"Dropped", event.Dropped(l), want.dropped}, {"Kept", event.Kept(l), want.kept}, {"Open", event.Open(l), want.open}} {
		if !slices.Equal(x.got, x.want) {
			t.Errorf("%s of %s = %.300q, want %.300q", x.what, told(l), x.got, x.want)
		}
	}
	if got := event.Conflicts(l); !slices.Equal(got, want.conflicts) {
		t.Errorf("Conflicts of %s = %.300q, want %.300q", told(l), got, want.conflicts)
	}
	if got := event.Solved(l); !slices.Equal(got, want.ended) {
		t.Errorf("Solved of %s = %.300q, want %.300q", told(l), got, want.ended)
	}
}

// partners looks at those that are against one.
func partners(t *testing.T, l []api.Patch, s slow, p string, names []string) {
	t.Helper()
	var want []string
	for _, q := range slices.Sorted(slices.Values(names)) {
		if s.against[[2]string{p, q}] {
			want = append(want, q)
		}
	}
	if got := event.Partners(l, p); !slices.Equal(got, want) {
		t.Errorf("Partners of %s, %q = %.300q, want %.300q", told(l), p, got, want)
	}
}

// orders calls f with these in each order.
func orders(l []api.Patch, f func(l []api.Patch)) {
	var turn func(n int)
	turn = func(n int) {
		if n == len(l) {
			f(l)
		}
		for i := n; i < len(l); i++ {
			l[n], l[i] = l[i], l[n]
			turn(n + 1)
			l[n], l[i] = l[i], l[n]
		}
	}
	turn(0)
}

// P16.1, P16.2: what is told of some sets, as texts.
func TestTold(t *testing.T) {
	a, b := does("a", "x"), does("b", "x")
	for i, x := range []struct {
		l                                     []api.Patch
		dropped, kept, conflicts, open, ended string
	}{
		{list(), "[]", "[]", "[]", "[]", "[]"},
		{list(a), "[]", "[a]", "[]", "[]", "[]"},
		// The chapter's example: two patches that make one file.
		{list(a, b), "[a b]", "[]", "[[a b]]", "[a b]", "[]"},
		{list(a, does("b", "y")), "[]", "[a b]", "[]", "[]", "[]"},
		// One that hangs on the other one is not against it.
		{list(a, does("b", "x", "a")), "[]", "[a b]", "[]", "[]", "[]"},
		// A third one solves it; that one alone is kept.
		{list(a, b, does("c", "x", "a", "b")), "[a b]", "[c]", "[]", "[]", "[[a b]]"},
		// One that hangs on just one of both solves nothing: it is against the other one, too.
		{list(a, b, does("c", "y", "a")), "[a b c]", "[]", "[[a b] [b c]]", "[a b c]", "[]"},
		{list(a, b, does("c", "y", "a"), does("d", "", "a", "b")), "[a b c]", "[d]", "[[b c]]", "[b c]", "[[a b]]"},
		{list(a, b, does("c", "y", "a"), does("d", "", "a", "b", "c")), "[a b c]", "[d]", "[]", "[]", "[[a b] [b c]]"},
		// Two that solve the same, and clash: what they hang on is of both.
		{list(a, b, does("c", "x", "a", "b"), does("d", "x", "a", "b")), "[a b c d]", "[]", "[[c d]]", "[c d]", "[[a b]]"},
		{list(a, b, does("c", "y", "a", "b"), does("d", "z", "a", "b")), "[a b]", "[c d]", "[]", "[]", "[[a b]]"},
		// Three of one place, each two of them; a fourth one solves two of them, and is against the third one by what it hangs on.
		{list(a, b, does("c", "x")), "[a b c]", "[]", "[[a b] [a c] [b c]]", "[a b c]", "[]"},
		{list(a, b, does("c", "x"), does("d", "", "a", "b")), "[a b c d]", "[]", "[[a c] [b c] [c d]]", "[a b c d]", "[[a b]]"},
		// A name that begins another one, and one that is ahead of letters.
		{list(does("a-", "x"), a, does("1", "x")), "[1 a a-]", "[]", "[[1 a] [1 a-] [a a-]]", "[1 a a-]", "[]"},
		// Nobody knows of both, but by others: c and d are each against one.
		{list(a, b, does("c", "", "a"), does("d", "", "b")), "[a b c d]", "[]", "[[a b] [a d] [b c] [c d]]", "[a b c d]", "[]"},
	} {
		orders(x.l, func(l []api.Patch) {
			got := fmt.Sprint(event.Dropped(l), event.Kept(l), event.Conflicts(l), event.Open(l), event.Solved(l))
			if want := strings.Join(texts(x.dropped, x.kept, x.conflicts, x.open, x.ended), " "); got != want {
				t.Errorf("%d: of %s is told %s, want %s", i, told(l), got, want)
			}
			one(t, l)
		})
	}
}

// P16.1: who is against whom, whichever is named first; nobody is against itself; names that nobody has.
func TestAgainst(t *testing.T) {
	l := list(does("c", "y", "a"), does("b", "x"), does("a", "x"), does("d", "z"), does("r", "", "a", "b", "c"))
	for _, x := range []struct {
		p, q string
		want bool
	}{
		{"a", "b", true}, {"b", "a", true}, {"b", "c", true}, {"c", "b", true}, {"a", "c", false}, {"c", "a", false}, {"a", "a", false}, {"b", "b", false}, {"a", "d", false}, {"d", "b", false},
		{"r", "a", false}, {"b", "r", false}, {"r", "d", false}, {"r", "r", false}, {"a", "e", false}, {"e", "a", false}, {"", "a", false}, {"a", "", false}, {"A", "b", false}, {"a", "bb", false}, {"e", "e", false}, {"", "", false},
	} {
		if got := event.Against(l, x.p, x.q); got != x.want {
			t.Errorf("Against of %q and %q = %v", x.p, x.q, got)
		}
	}
	for p, want := range map[string]string{"a": "[b]", "b": "[a c]", "c": "[b]", "d": "[]", "r": "[]", "e": "[]", "": "[]", "z": "[]", "B": "[]"} {
		if got := fmt.Sprint(event.Partners(l, p)); got != want {
			t.Errorf("Partners of %q = %s, want %s", p, got, want)
		}
	}
}

// P16.1: patches clash by each of the five numbers of clash, and each of these lets them be against one another.
func TestEachWhy(t *testing.T) {
	f, d := api.Id{Patch: "o", N: 0}, api.Id{Patch: "o", N: 3}
	old := api.Patch{Name: "o", Ops: []api.Op{
		{Kind: api.OFile, Self: f, Name: "f"},
		{Kind: api.OHunk, Self: f, Left: ident.Begin(), Right: ident.End(), First: 1, Lines: texts("one", "two")},
		{Kind: api.ODir, Self: d, Name: "d"},
	}}
	on := func(s string, o api.Op) api.Patch { return api.Patch{Name: s, Deps: texts("o"), Ops: []api.Op{o}} }
	hunk := api.Op{Kind: api.OHunk, Self: f, Left: api.Id{Patch: "o", N: 2}, Right: ident.End(), First: 0, Lines: texts("three")}
	other := api.Op{Kind: api.OHunk, Self: f, Left: ident.Begin(), Right: api.Id{Patch: "o", N: 1}, First: 0, Lines: texts("zero")}
	gone := api.Op{Kind: api.OGone, Self: f, Name: "f"}
	move := api.Op{Kind: api.OMove, Self: f, Name: "f", To: d, ToName: "f"}
	aside := api.Op{Kind: api.OMove, Self: f, Name: "g", ToName: "h"}
	noDir := api.Op{Kind: api.OGone, Self: d, Name: "d"}
	for _, x := range []struct {
		a, b api.Op
		why  int
	}{{hunk, hunk, 1}, {hunk, gone, 2}, {gone, move, 3}, {gone, aside, 4}, {move, noDir, 5}, {hunk, other, 0}, {hunk, move, 0}, {gone, noDir, 0}} {
		l := list(on("p", x.a), old, on("q", x.b))
		if e := deps.Check(l); e != api.OK {
			t.Fatalf("Check of %s = %d", told(l), e)
		}
		if why := clash.Ops(x.a, x.b); why != x.why {
			t.Errorf("clash.Ops of %v and %v = %d, want %d", x.a, x.b, why, x.why)
		}
		s := one(t, l)
		if got := len(s.conflicts) > 0; got != (x.why != 0) || slices.Contains(s.dropped, "o") {
			t.Errorf("of %s the words tell conflicts %q, dropped %q", told(l), s.conflicts, s.dropped)
		}
	}
}

// subsets are all lists of some of these, in their order.
func subsets(l ...string) [][]string {
	all := [][]string{nil}
	for _, s := range l {
		for _, some := range all {
			all = append(all, append(slices.Clone(some), s))
		}
	}
	return all
}

// four are all sets of four patches, without operations, that may be.
func four() [][]api.Patch {
	var all [][]api.Patch
	for _, a := range subsets("b", "c", "d") {
		for _, b := range subsets("a", "c", "d") {
			for _, c := range subsets("a", "b", "d") {
				for _, d := range subsets("a", "b", "c") {
					if l := list(does("a", "", a...), does("b", "", b...), does("c", "", c...), does("d", "", d...)); deps.Check(l) == api.OK {
						all = append(all, l)
					}
				}
			}
		}
	}
	return all
}

// clashing are these patches, of which those two clash whose bits are set in how: each two make a file of their own.
func clashing(l []api.Patch, how int) []api.Patch {
	files := make([]string, len(l))
	for j := range l {
		for i := range j {
			if how&1 != 0 {
				s := l[i].Name + "-" + l[j].Name
				files[i], files[j] = files[i]+" "+s, files[j]+" "+s
			}
			how >>= 1
		}
	}
	var all []api.Patch
	for i, p := range l {
		all = append(all, does(p.Name, files[i], p.Deps...))
	}
	return all
}

// P16.1 to P16.4: all sets of four patches that hang on one another in any way, of which any two clash; each tenth in each order.
func TestFour(t *testing.T) {
	all := four()
	if len(all) != 219 {
		t.Fatalf("%d sets of four may be", len(all))
	}
	conflicts, ended := 0, 0
	for i, l := range all {
		for how := range 64 {
			l := clashing(l, how)
			s := one(t, l)
			conflicts += len(s.conflicts)
			ended += len(s.ended)
			heirs(t, l)
			if (i+how)%10 == 0 {
				orders(l, func(l []api.Patch) { sets(t, l, s) })
			}
			if t.Failed() {
				t.FailNow()
			}
		}
	}
	if conflicts < 1000 || ended < 100 {
		t.Errorf("%d conflicts, %d solved", conflicts, ended)
	}
}

// heirs looks at what is told of all that hang on something dropped: whoever is against that is against them, too, or they hang on it, or on what is of it alone.
func heirs(t *testing.T, l []api.Patch) {
	t.Helper()
	for _, r := range l {
		for _, s := range r.Deps {
			d := find(l, s)
			for _, u := range event.Partners(l, s) {
				e := find(l, u)
				knows := slices.ContainsFunc(slowAlone(e, d), func(x string) bool { return slices.Contains(r.Deps, x) })
				dropped := slices.Contains(event.Dropped(l), r.Name)
				if !knows && !(dropped && event.Against(l, r.Name, u)) {
					t.Errorf("of %s %q hangs on %q, that %q is against, and is kept", told(l), r.Name, s, u)
				}
			}
		}
	}
}

// drawn is a set of n patches, in no order, of which each hangs on some of others, and on all that these hang on, and makes some of many files.
func drawn(r *rand.Rand, n, files int) []api.Patch {
	var l []api.Patch
	for i := range n {
		p := api.Patch{Name: "p" + strconv.Itoa(r.IntN(90)+10) + "-" + strconv.Itoa(i)}
		for _, q := range l {
			if i%3 > 0 && r.IntN(n) < 2 {
				p.Deps = append(append(p.Deps, q.Name), q.Deps...)
			}
		}
		slices.Sort(p.Deps)
		var made strings.Builder
		for range r.IntN(4) {
			made.WriteString(" f" + strconv.Itoa(r.IntN(files)))
		}
		l = append(l, does(p.Name, made.String(), slices.Compact(p.Deps)...))
	}
	r.Shuffle(n, func(i, k int) { l[i], l[k] = l[k], l[i] })
	return l
}

// P16.1 to P16.4: greater sets, that may be; the same in other orders, with one more, that hangs on all of it, and without what hangs on one.
func TestDrawn(t *testing.T) {
	r := rand.New(rand.NewPCG(16, 1))
	seen := [4]int{}
	for i := range 300 {
		l := drawn(r, 2+r.IntN(14), 4+r.IntN(30))
		if e := deps.Check(l); e != api.OK {
			t.Fatalf("Check of %s = %d", told(l), e)
		}
		s := one(t, l)
		heirs(t, l)
		for k, n := range []int{len(s.conflicts), len(s.ended), len(s.kept), len(s.dropped)} {
			seen[k] += n
		}
		r.Shuffle(len(l), func(i, k int) { l[i], l[k] = l[k], l[i] })
		sets(t, l, s)
		all := append(slices.Clone(l), does("all", "f1 f2", deps.Names(l)...))
		if s := one(t, all); len(s.conflicts) > 0 || !slices.Contains(event.Kept(all), "all") {
			t.Errorf("of %s one that hangs on all is not kept", told(all))
		}
		gone := deps.Users(l, l[i%len(l)].Name)
		one(t, slices.DeleteFunc(slices.Clone(l), func(p api.Patch) bool { return slices.Contains(gone, p.Name) }))
		if t.Failed() {
			t.FailNow()
		}
	}
	if slices.Min(seen[:]) < 120 {
		t.Errorf("conflicts, solved, kept, dropped: %d", seen)
	}
}

// P16.1, P16.2: sets as great as two, and three, words of places, at whose ends something is.
func TestWide(t *testing.T) {
	r := rand.New(rand.NewPCG(16, 2))
	for _, n := range []int{63, 64, 65, 128, 129, 140} {
		l := drawn(r, n, 3*n)
		want := slowly(l)
		sets(t, l, want)
		for _, p := range l {
			partners(t, l, want, p.Name, deps.Names(l))
		}
		for k := range n {
			p, q := l[k].Name, l[(7*k+1)%n].Name
			if got := event.Against(l, p, q); got != want.against[[2]string{p, q}] {
				t.Errorf("Against of %d patches, %q and %q = %v", n, p, q, got)
			}
		}
	}
}

// wrong are lists that may be no set, of which two would be against one another, were they one.
func wrong() [][]api.Patch {
	a, b := does("a", "x"), does("b", "x")
	foreign := does("c", "x", "a", "b")
	foreign.Ops[0].Self.Patch = "d"
	return [][]api.Patch{
		{a, b, a}, {a, b, does("a", "y")}, {a, b, does("c", "", "z")}, {a, b, does("c", "", "a"), does("d", "", "c")}, {a, b, does("C", "")}, {a, b, {}}, {a, b, does("c", "", "b", "a")},
		{a, b, does("c", "", "c")}, {a, b, does("c", "x/y")}, {a, b, foreign}, {a, b, does("c", "", "d"), does("d", "", "c")}, {a, b, does("c", "", "", "a")}, {a, b, does(strings.Repeat("a", 41), "")}, {does("A", "x"), does("B", "x")},
	}
}

// P16.1, P16.2: of what may not be a set there is nothing to be told.
func TestWrong(t *testing.T) {
	for _, l := range wrong() {
		orders(l, func(l []api.Patch) {
			if deps.Check(l) == api.OK {
				t.Fatalf("Check of %s = 0", told(l))
			}
			one(t, l)
			if event.Against(l, "a", "b") || len(event.Partners(l, "a")) > 0 || len(event.Dropped(l)) > 0 || len(event.Kept(l)) > 0 {
				t.Errorf("of %s something is told", told(l))
			}
			if len(event.Conflicts(l)) > 0 || len(event.Open(l)) > 0 || len(event.Solved(l)) > 0 {
				t.Errorf("of %s conflicts are told", told(l))
			}
		})
	}
	one(t, nil)
}

// named tells n names, in order.
func named(n int) []string {
	var l []string
	for i := range n {
		l = append(l, fmt.Sprintf("p%04d", i))
	}
	return l
}

// P16.1, P16.2, R1: sets of as many patches as there may be, and of more: all of one place; of none in common; each on all ahead of it.
func TestMany(t *testing.T) {
	for _, n := range []int{api.MaxSet, 700} {
		names := named(n)
		var same, apart, row []api.Patch
		for i, s := range names {
			same = append(same, does(s, "x"))
			apart = append(apart, does(s, s+" "+s+"y"))
			row = append(row, does(s, "x", names[:i]...))
		}
		if got := event.Conflicts(same); len(got) != n*(n-1)/2 || !slices.IsSortedFunc(got, func(a, b [2]string) int { return slices.Compare(a[:], b[:]) }) {
			t.Errorf("Conflicts of %d of one place: %d", n, len(got))
		}
		if !slices.Equal(event.Dropped(same), names) || !slices.Equal(event.Open(same), names) || !slices.Equal(event.Partners(same, names[0]), names[1:]) {
			t.Errorf("of %d of one place not all are dropped, in conflict, against the first one", n)
		}
		for _, l := range [][]api.Patch{apart, row} {
			if !slices.Equal(event.Kept(l), names) || len(event.Conflicts(l))+len(event.Solved(l))+len(event.Dropped(l)) > 0 {
				t.Errorf("of %d that do not clash, or hang on one another, not all are kept", n)
			}
		}
	}
}

// twoRows are two rows of n patches, each on all ahead of it in its row, that clash at one place of each, and a last one, that hangs on both up to a place.
func twoRows(n, clashAt, upTo int) []api.Patch {
	var l []api.Patch
	var left, right []string
	for i, s := range named(n) {
		files := ""
		if i == clashAt {
			files = "x"
		}
		l = append(l, does("a"+s, files, left...), does("b"+s, files, right...))
		left, right = append(left, "a"+s), append(right, "b"+s)
	}
	return append(l, does("c", "", append(left[:upTo:upTo], right[:upTo]...)...))
}

// rowsTold is what the words tell of two rows: from where they clash on, all of one are against all of the other one, and the last one solves what it hangs on.
func rowsTold(n, clashAt, upTo int) slow {
	want := slow{kept: texts("c")}
	names := named(n)
	for i, s := range names {
		if i < clashAt {
			want.kept = append(want.kept, "a"+s, "b"+s)
			continue
		}
		want.dropped = append(want.dropped, "a"+s, "b"+s)
		for j, u := range names[clashAt:] {
			if two := [2]string{"a" + s, "b" + u}; i < upTo && j+clashAt < upTo {
				want.ended = append(want.ended, two)
			} else {
				want.conflicts = append(want.conflicts, two)
			}
		}
	}
	for _, c := range want.conflicts {
		want.open = append(want.open, c[0], c[1])
	}
	slices.Sort(want.open)
	want.open = slices.Compact(want.open)
	slices.Sort(want.dropped)
	slices.Sort(want.kept)
	return want
}

// P16.1, P16.2: two rows of patches that clash at their beginnings, in the middle, at their ends; a last one hangs on nothing of them, some, most, all.
func TestRows(t *testing.T) {
	for _, n := range []int{4, 249} {
		for _, clashAt := range []int{0, n / 2, n - 1} {
			for _, upTo := range []int{0, n / 2, 3 * n / 4, n} {
				l, want := twoRows(n, clashAt, upTo), rowsTold(n, clashAt, upTo)
				sets(t, l, want)
				if n < 10 {
					one(t, l)
				}
				first, last := fmt.Sprintf("ap%04d", clashAt), fmt.Sprintf("bp%04d", n-1)
				if !event.Against(l, first, last) || !event.Against(l, last, first) || event.Against(l, "c", last) {
					t.Errorf("of %s %q and %q are not against one another, or c is", told(l), first, last)
				}
			}
		}
	}
}

// P16.1, R1: patches of as many operations as there may be, that clash by their last ones.
func TestLong(t *testing.T) {
	long := func(s string) api.Patch {
		p := api.Patch{Name: s}
		for i := range api.MaxOps {
			p.Ops = append(p.Ops, api.Op{Kind: api.OFile, Self: api.Id{Patch: s, N: i}, Name: s + strconv.Itoa(i)})
		}
		return p
	}
	a, b := long("a"), long("b")
	l := list(b, does("c", "z"), a)
	if got := event.Kept(l); len(got) != 3 || event.Against(l, "a", "b") {
		t.Errorf("Kept = %q", got)
	}
	a.Ops[api.MaxOps-1].Name, b.Ops[api.MaxOps-1].Name = "z", "z"
	if got := fmt.Sprint(event.Conflicts(l)); got != "[[a b] [a c] [b c]]" || !event.Against(l, "b", "a") {
		t.Errorf("Conflicts = %s", got)
	}
}

// P16.3, R3: what is handed in is not changed, its spare room neither, and stays in its order; what is answered shares nothing.
func TestMemory(t *testing.T) {
	all := list(does("d", "x y", "b"), does("c", "y", "a", "b"), does("b", "x"), does("a", "x"), does("e", "x"), does("f", "z"))
	l := all[:4:6]
	for i := range l {
		l[i].Deps = append(l[i].Deps, "spare", "room")[:len(l[i].Deps)]
	}
	state := func() string { return fmt.Sprint(all, all[0].Deps[:3], all[1].Deps[:4], all[2].Deps[:2]) }
	before, kept := state(), deep(l)
	answers := func() string {
		return fmt.Sprint(event.Against(l, "a", "b"), event.Partners(l, "a"), event.Dropped(l), event.Kept(l), event.Conflicts(l), event.Open(l), event.Solved(l))
	}
	first := answers()
	for _, told := range [][]string{event.Partners(l, "a"), event.Dropped(l), event.Kept(l), event.Open(l)} {
		for i := range told[:cap(told)] {
			told[:cap(told)][i] = "other"
		}
	}
	for _, told := range [][][2]string{event.Conflicts(l), event.Solved(l)} {
		for i := range told {
			told[i] = [2]string{"other", "other"}
		}
	}
	if got := answers(); got != first {
		t.Errorf("asked again: %s, first: %s", got, first)
	}
	if got := state(); got != before || !slices.EqualFunc(l, kept, patch.Same) {
		t.Errorf("handed in: %s, now %s", before, got)
	}
}

// R4: what is told hangs on what is handed in alone: the same again, and of a copy of it.
func TestAgain(t *testing.T) {
	r := rand.New(rand.NewPCG(16, 3))
	for range 20 {
		l := drawn(r, 40, 60)
		first := fmt.Sprint(event.Conflicts(l), event.Solved(l), event.Kept(l), event.Partners(l, l[0].Name))
		for range 5 {
			l = deep(l)
			if got := fmt.Sprint(event.Conflicts(l), event.Solved(l), event.Kept(l), event.Partners(l, l[0].Name)); got != first {
				t.Fatalf("of %s is told %s, then %s", told(l), first, got)
			}
		}
	}
}
