package name_test

import (
	"slices"
	"strings"
	"testing"

	"rafter/name"
)

// isLetter tells by its edges, other than package name does, whether a byte may be in a name.
func isLetter(b byte) bool {
	return b >= 'a' && b <= 'z' || b >= '0' && b <= '9' || b == '.' || b == '_' || b == '-'
}

// P2.1: each text of one byte, and of two.
func TestRightOfFewBytes(t *testing.T) {
	for i := range 256 {
		a := byte(i)
		one := string([]byte{a})
		if want := isLetter(a) && one != "."; name.Right(one) != want {
			t.Errorf("Right(%q) = %v", one, !want)
		}
		for j := range 256 {
			b := byte(j)
			two := string([]byte{a, b})
			if want := isLetter(a) && isLetter(b) && two != ".."; name.Right(two) != want {
				t.Errorf("Right(%q) = %v", two, !want)
			}
		}
	}
}

// P2.1: names, at the edges that the chapter names.
func TestRight(t *testing.T) {
	for _, s := range []string{
		"a", "z", "0", "9", "_", "-", "a.b", "-1", "...", "....", ".a", "a.", "..a", "a..", "._", "--",
		"abcdefghijklmnopqrstuvwxyz0123456789._-", strings.Repeat("a", 40), strings.Repeat(".", 40), "add-the-list_2.0",
	} {
		if !name.Right(s) {
			t.Errorf("Right(%q) = false", s)
		}
	}
}

// P2.1: texts that are no names.
func TestRightWrong(t *testing.T) {
	for _, s := range []string{
		"", ".", "..", "A", "aB", "a b", " a", "a ", "a/b", "/", "a\n", "a\x00", "\x00", "é", "aé", "ａ", "\xff", "a\x80b", "a#2", "a+b", "a:b", "a`", "a{",
		strings.Repeat("a", 41), strings.Repeat(".", 41), strings.Repeat("a", 1<<16), strings.Repeat("a", 39) + "A", strings.Repeat("a", 39) + "é",
	} {
		if name.Right(s) {
			t.Errorf("Right(%q) = true", s)
		}
	}
}

// P2.1: where in a name of any length a byte is none of a name's, it is none.
func TestRightAtEachPlace(t *testing.T) {
	for n := 1; n <= 42; n++ {
		s := strings.Repeat("a", n)
		if got := name.Right(s); got != (n <= 40) {
			t.Errorf("Right of %d bytes = %v", n, got)
		}
		for i := range n {
			if wrong := s[:i] + "/" + s[i+1:]; name.Right(wrong) {
				t.Errorf("Right(%q) = true", wrong)
			}
		}
	}
}

// P2.1: sets, of any texts, byte by byte.
func TestSet(t *testing.T) {
	for _, c := range []struct{ list, want []string }{
		{nil, nil},
		{[]string{}, nil},
		{[]string{""}, []string{""}},
		{[]string{"", ""}, []string{""}},
		{[]string{"b", "a", "b"}, []string{"a", "b"}},
		{[]string{"a", "a", "a"}, []string{"a"}},
		{[]string{"a", "b", "c"}, []string{"a", "b", "c"}},
		{[]string{"c", "b", "a"}, []string{"a", "b", "c"}},
		{[]string{"b", "", "a", ""}, []string{"", "a", "b"}},
		{[]string{"a", "B", "A", "b"}, []string{"A", "B", "a", "b"}},
		{[]string{"ab", "b", "a", "aa", "abc"}, []string{"a", "aa", "ab", "abc", "b"}},
		{[]string{"a10", "a2", "a1"}, []string{"a1", "a10", "a2"}},
		{[]string{"a_", "a-", "a.", "a0", "aa"}, []string{"a-", "a.", "a0", "a_", "aa"}},
		{[]string{"\xff", "é", "z", "\x00", "\x80", "€"}, []string{"\x00", "z", "\x80", "é", "€", "\xff"}},
		{[]string{"a\x00", "a", "A/B c\n"}, []string{"A/B c\n", "a", "a\x00"}},
	} {
		if got := name.Set(c.list...); !slices.Equal(got, c.want) {
			t.Errorf("Set(%q) = %q, want %q", c.list, got, c.want)
		}
	}
	if got := name.Set(); len(got) != 0 {
		t.Errorf("Set() = %q", got)
	}
}

// P2.1: what is in a list of any order, and what is not.
func TestHas(t *testing.T) {
	list := []string{"c", "a", "b", "a", "", "\xff", "A b"}
	for _, s := range list {
		if !name.Has(list, s) {
			t.Errorf("Has(%q, %q) = false", list, s)
		}
	}
	for _, s := range []string{"d", "aa", "A", " ", "b\x00", "ÿ", "\xfe"} {
		if name.Has(list, s) {
			t.Errorf("Has(%q, %q) = true", list, s)
		}
	}
	if name.Has(nil, "") || name.Has([]string{}, "a") || name.Has([]string{"a"}, "") {
		t.Error("Has: a text that is not there")
	}
}

// lists calls f with each list of up to n of these texts.
func lists(n int, of []string, f func([]string)) {
	var grow func([]string)
	grow = func(l []string) {
		f(l)
		for _, s := range of {
			if len(l) < n {
				grow(append(slices.Clone(l), s))
			}
		}
	}
	grow(nil)
}

// pick tells which of the texts, that rise, are told to be wanted: a set by the chapter's own words.
func pick(of []string, wanted func(string) bool) []string {
	var l []string
	for _, s := range of {
		if wanted(s) {
			l = append(l, s)
		}
	}
	return l
}

// P2.1, P2.2: all lists of up to three of four texts, and all pairs of them, against the words.
func TestEachPairOfLists(t *testing.T) {
	of := []string{"", "a", "a.", "b"}
	lists(3, of, func(a []string) {
		inA := func(s string) bool { return slices.Contains(a, s) }
		check(t, "Set", a, nil, name.Set(a...), pick(of, inA))
		for _, s := range of {
			if name.Has(a, s) != inA(s) {
				t.Errorf("Has(%q, %q) = %v", a, s, !inA(s))
			}
		}
		lists(3, of, func(b []string) {
			inB := func(s string) bool { return slices.Contains(b, s) }
			check(t, "Union", a, b, name.Union(a, b), pick(of, func(s string) bool { return inA(s) || inB(s) }))
			check(t, "Minus", a, b, name.Minus(a, b), pick(of, func(s string) bool { return inA(s) && !inB(s) }))
			check(t, "Both", a, b, name.Both(a, b), pick(of, func(s string) bool { return inA(s) && inB(s) }))
			within := len(pick(of, func(s string) bool { return inA(s) && !inB(s) })) == 0
			same := len(pick(of, func(s string) bool { return inA(s) != inB(s) })) == 0
			if name.Within(a, b) != within {
				t.Errorf("Within(%q, %q) = %v", a, b, !within)
			}
			if name.Same(a, b) != same {
				t.Errorf("Same(%q, %q) = %v", a, b, !same)
			}
		})
	})
}

// check tells if a set is not the one that is wanted.
func check(t *testing.T, what string, a, b, got, want []string) {
	t.Helper()
	if !slices.Equal(got, want) {
		t.Errorf("%s(%q, %q) = %q, want %q", what, a, b, got, want)
	}
}

// P2.2: lists in no order, with texts twice, and texts that are no names.
func TestTwoLists(t *testing.T) {
	a := []string{"é", "c", "B", "c", "a", ""}
	b := []string{"d", "c", "é", "d", "\xff"}
	check(t, "Union", a, b, name.Union(a, b), []string{"", "B", "a", "c", "d", "é", "\xff"})
	check(t, "Minus", a, b, name.Minus(a, b), []string{"", "B", "a"})
	check(t, "Minus", b, a, name.Minus(b, a), []string{"d", "\xff"})
	check(t, "Both", a, b, name.Both(a, b), []string{"c", "é"})
	check(t, "Both", b, a, name.Both(b, a), []string{"c", "é"})
	if name.Within(a, b) || name.Within(b, a) || name.Same(a, b) {
		t.Error("lists of unlike texts are within each other, or the same")
	}
	if !name.Within([]string{"é", "c", "c"}, a) || name.Within(a, []string{"é", "c"}) {
		t.Error("Within: whether the second one has all of the first one, not the other way round")
	}
	if !name.Same(a, []string{"", "a", "B", "a", "c", "é"}) {
		t.Error("Same: neither the order nor how often a text is there is told apart")
	}
}

// P2.2: nothing, as nil and as an empty list.
func TestNothing(t *testing.T) {
	some := []string{"b", "a", "b"}
	for _, none := range [][]string{nil, {}} {
		check(t, "Union", some, none, name.Union(some, none), []string{"a", "b"})
		check(t, "Union", none, some, name.Union(none, some), []string{"a", "b"})
		check(t, "Minus", some, none, name.Minus(some, none), []string{"a", "b"})
		check(t, "Minus", none, some, name.Minus(none, some), nil)
		check(t, "Both", some, none, name.Both(some, none), nil)
		check(t, "Both", none, some, name.Both(none, some), nil)
		if !name.Within(none, some) || name.Within(some, none) || name.Same(some, none) || name.Same(none, some) {
			t.Error("nothing is within something, and not the other way round")
		}
		if !name.Within(none, nil) || !name.Same(none, nil) || !name.Same([]string{}, none) {
			t.Error("nothing is the same as nothing")
		}
	}
}

// P2.2: sets of as many names as a repository may have patches, and more.
func TestManyNames(t *testing.T) {
	var all, odd, even []string
	for i := range 4000 {
		s := string([]byte{'a' + byte(i/20%20), 'a' + byte(i%20), 'a' + byte(i/400)})
		all = append(all, s)
		if i%2 == 0 {
			even = append(even, s)
		} else {
			odd = append(odd, s)
		}
	}
	set := name.Set(all...)
	for i, s := range set[1:] {
		if set[i] >= s {
			t.Fatalf("%q is ahead of %q", set[i], s)
		}
	}
	if len(set) != len(all) {
		t.Errorf("of %d names %d are in the set", len(all), len(set))
	}
	slices.Reverse(odd)
	check(t, "Union", nil, nil, name.Union(odd, even), set)
	check(t, "Minus", nil, nil, name.Minus(all, even), name.Set(odd...))
	check(t, "Both", nil, nil, name.Both(odd, all), name.Set(odd...))
	if !name.Within(odd, all) || name.Within(all, odd) || !name.Same(append(odd, even...), all) {
		t.Error("many names: Within, Same")
	}
}

// calls are all calls that answer a set of two lists.
func calls() map[string]func(a, b []string) []string {
	return map[string]func(a, b []string) []string{
		"Set":   func(a, b []string) []string { return name.Set(a...) },
		"Union": name.Union,
		"Minus": name.Minus,
		"Both":  name.Both,
	}
}

// P2.1, P2.2, R3: lists that are handed in stay as they are, their spare room too, and what is answered is memory of its own.
func TestListsStayAsTheyAre(t *testing.T) {
	for what, call := range calls() {
		for _, rising := range []bool{false, true} {
			begin := []string{"c", "a", "c", "b", "y", "z"}
			if rising {
				begin = []string{"a", "b", "c", "d", "y", "z"}
			}
			a, b := slices.Clone(begin), slices.Clone(begin)
			same := func() bool { return slices.Equal(a, begin) && slices.Equal(b, begin) }
			got := call(a[:4], b[:1])
			name.Has(a[:4], "b")
			name.Within(a[:4], b[:3])
			name.Same(a[:4], b[:3])
			if !same() {
				t.Errorf("%s changed what was handed in: %q %q", what, a, b)
			}
			for i := range got {
				got[i] = "changed"
			}
			_ = append(got, "changed", "changed")
			if !same() {
				t.Errorf("%s answers memory that was handed in: %q %q", what, a, b)
			}
		}
	}
}

// P2.1, P2.2, R3: what was answered stays as it is when what was handed in changes.
func TestAnswersStayAsTheyAre(t *testing.T) {
	for what, call := range calls() {
		a, b := []string{"a", "b"}, []string{"b"}
		first := call(a, b)
		kept := slices.Clone(first)
		second := call(a, b)
		a[0], a[1], b[0] = "x", "y", "z"
		if len(second) > 0 {
			second[0] = "changed"
		}
		if !slices.Equal(first, kept) {
			t.Errorf("%s: an answer changed from %q to %q", what, kept, first)
		}
	}
}
