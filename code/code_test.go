package code_test

import (
	"math"
	"math/big"
	"slices"
	"strings"
	"testing"

	"rafter/api"
	"rafter/code"
)

// nines are the nine bytes that the greatest numbers begin with.
var nines = strings.Repeat("\xff", 9)

// numbers are numbers and their bytes, at each edge of a byte more.
func numbers() map[uint64]string {
	return map[uint64]string{
		0:                  "\x00",
		1:                  "\x01",
		127:                "\x7f",
		128:                "\x80\x01",
		129:                "\x81\x01",
		255:                "\xff\x01",
		256:                "\x80\x02",
		300:                "\xac\x02",
		1<<14 - 1:          "\xff\x7f",
		1 << 14:            "\x80\x80\x01",
		1 << 32:            "\x80\x80\x80\x80\x10",
		1<<63 - 1:          nines[1:] + "\x7f",
		1 << 63:            strings.Repeat("\x80", 9) + "\x01",
		math.MaxUint64 - 1: "\xfe" + nines[1:] + "\x01",
		math.MaxUint64:     nines + "\x01",
	}
}

// texts are texts and their bytes.
func texts() map[string]string {
	return map[string]string{
		"":                         "\x00",
		"a":                        "\x01a",
		"a b\n":                    "\x04a b\n",
		"\x00":                     "\x01\x00",
		"\xff\x80":                 "\x02\xff\x80",
		"ä":                        "\x02ä",
		strings.Repeat("x", 127):   "\x7f" + strings.Repeat("x", 127),
		strings.Repeat("x", 128):   "\x80\x01" + strings.Repeat("x", 128),
		strings.Repeat("x", 1<<14): "\x80\x80\x01" + strings.Repeat("x", 1<<14),
	}
}

type listCase struct {
	list  []string
	bytes string
}

// lists are lists and their bytes.
func lists() []listCase {
	return []listCase{
		{nil, "\x00"},
		{[]string{}, "\x00"},
		{[]string{""}, "\x01\x00"},
		{[]string{"a"}, "\x01\x01a"},
		{[]string{"a", "", "bc"}, "\x03\x01a\x00\x02bc"},
		{[]string{"b", "a", "b"}, "\x03\x01b\x01a\x01b"},
		{make([]string, 127), "\x7f" + strings.Repeat("\x00", 127)},
		{make([]string, 128), "\x80\x01" + strings.Repeat("\x00", 128)},
		{[]string{strings.Repeat("x", 128)}, "\x01\x80\x01" + strings.Repeat("x", 128)},
	}
}

// P1.1: the bytes of a number.
func TestNumLays(t *testing.T) {
	for n, want := range numbers() {
		if got := code.Num(n); got != want {
			t.Errorf("Num(%d) = %q, want %q", n, got, want)
		}
	}
}

// P1.1: the bytes of a text.
func TestTextLays(t *testing.T) {
	for s, want := range texts() {
		if got := code.Text(s); got != want {
			t.Errorf("Text(%q) = %q, want %q", s, got, want)
		}
	}
}

// P1.1: the bytes of a list.
func TestListLays(t *testing.T) {
	for _, c := range lists() {
		if got := code.List(c.list...); got != c.bytes {
			t.Errorf("List(%q) = %q, want %q", c.list, got, c.bytes)
		}
	}
	if got := code.List(); got != "\x00" {
		t.Errorf("List() = %q, want no list's bytes", got)
	}
}

// P1.1, R3: a list that is handed in stays as it is, its spare room too.
func TestListLeavesWhatIsHandedIn(t *testing.T) {
	all := []string{"a", "b", "spare"}
	code.List(all[:2]...)
	if !slices.Equal(all, []string{"a", "b", "spare"}) {
		t.Errorf("List changed its argument: %q", all)
	}
}

// expect tells what is wrong with r, of which left bytes should be left, with e told.
func expect(t *testing.T, what string, r *code.Reader, left int, e api.Errno) {
	t.Helper()
	if r.Left() != left || r.Err() != e {
		t.Errorf("%s: left %d, error %d, want left %d, error %d", what, r.Left(), r.Err(), left, e)
	}
}

// P1.2: a number is told, and read, and no more than it.
func TestReadNum(t *testing.T) {
	for want, s := range numbers() {
		for _, behind := range []string{"", "\x00", "\x80", "ab"} {
			r := code.Read(s + behind)
			if got := r.Num(); got != want {
				t.Errorf("Num of %q = %d, want %d", s+behind, got, want)
			}
			expect(t, "Num", r, len(behind), api.OK)
		}
	}
}

// P1.2: a text is told, and read, and no more than it.
func TestReadText(t *testing.T) {
	for want, s := range texts() {
		for _, behind := range []string{"", "\x00", "\x80", "ab"} {
			r := code.Read(s + behind)
			if got := r.Text(); got != want {
				t.Errorf("Text of %q = %q, want %q", s+behind, got, want)
			}
			expect(t, "Text", r, len(behind), api.OK)
		}
	}
}

// P1.2: a list is told, and read, and no more than it.
func TestReadList(t *testing.T) {
	for _, c := range lists() {
		for _, behind := range []string{"", "\x00", "\x80", "ab"} {
			r := code.Read(c.bytes + behind)
			if got := r.List(); !slices.Equal(got, c.list) {
				t.Errorf("List of %q = %q, want %q", c.bytes+behind, got, c.list)
			}
			expect(t, "List", r, len(behind), api.OK)
		}
	}
}

// P1.2: a new Reader has all its bytes, and no error; asking is not reading.
func TestReadBegins(t *testing.T) {
	for _, s := range []string{"", "\x00", "\x80\x00", "abc"} {
		r := code.Read(s)
		expect(t, "Read", r, len(s), api.OK)
		expect(t, "Read, asked again", r, len(s), api.OK)
	}
}

type wrongCase struct {
	bytes string
	err   api.Errno
}

// wrongNumbers are bytes that are no number, so that nothing that begins with a number is there.
func wrongNumbers() []wrongCase {
	ten := strings.Repeat("\x80", 10)
	return []wrongCase{
		{"", api.ErrShort},
		{"\x80", api.ErrShort},
		{"\xff\xff", api.ErrShort},
		{nines, api.ErrShort},
		{nines + "\xff", api.ErrShort}, // too great as well; that bytes end is named first (R2)
		{nines + nines, api.ErrShort},
		{ten, api.ErrShort},
		{"\x80\x00", api.ErrForm},
		{"\x81\x00", api.ErrForm},
		{"\x81\x80\x00", api.ErrForm},
		{"\x80\x00ab", api.ErrForm},
		{nines + "\x00", api.ErrForm},
		{nines + "\x02", api.ErrForm},
		{nines + "\x03ab", api.ErrForm},
		{nines + "\x7f", api.ErrForm},
		{ten[1:] + "\x02", api.ErrForm},
		{ten + "\x01", api.ErrForm},
		{ten + "\x00", api.ErrForm},
		{nines + "\xff\x01", api.ErrForm},
		{ten + ten + "\x01", api.ErrForm},
	}
}

// nothing looks whether r, in which e was wrong first, tells nothing more, whatever it is asked.
func nothing(t *testing.T, what string, r *code.Reader, e api.Errno) {
	t.Helper()
	expect(t, what, r, 0, e)
	for range 2 {
		if n := r.Num(); n != 0 {
			t.Errorf("%s: a number behind an error: %d", what, n)
		}
		if s := r.Text(); s != "" {
			t.Errorf("%s: a text behind an error: %q", what, s)
		}
		if l := r.List(); len(l) != 0 {
			t.Errorf("%s: a list behind an error: %q", what, l)
		}
		expect(t, what+", later", r, 0, e)
	}
}

// P1.2: bytes that are no number.
func TestReadNumWrong(t *testing.T) {
	for _, c := range wrongNumbers() {
		r := code.Read(c.bytes)
		if n := r.Num(); n != 0 {
			t.Errorf("Num of %q = %d, want nothing", c.bytes, n)
		}
		nothing(t, "Num", r, c.err)
	}
}

// P1.2: bytes that are no text.
func TestReadTextWrong(t *testing.T) {
	cases := append(wrongNumbers(),
		wrongCase{"\x01", api.ErrShort},
		wrongCase{"\x05ab", api.ErrShort},
		wrongCase{"\x03ab", api.ErrShort},
		wrongCase{"\x80\x01" + strings.Repeat("x", 127), api.ErrShort},
		wrongCase{code.Num(1<<32) + "ab", api.ErrShort},
		wrongCase{code.Num(1<<63-1) + "ab", api.ErrShort},
		wrongCase{code.Num(1<<63) + "ab", api.ErrShort},
		wrongCase{code.Num(math.MaxUint64) + "ab", api.ErrShort},
	)
	for _, c := range cases {
		r := code.Read(c.bytes)
		if s := r.Text(); s != "" {
			t.Errorf("Text of %q = %q, want nothing", c.bytes, s)
		}
		nothing(t, "Text", r, c.err)
	}
}

// P1.2: bytes that are no list.
func TestReadListWrong(t *testing.T) {
	cases := append(wrongNumbers(),
		wrongCase{"\x01", api.ErrShort},
		wrongCase{"\x03\x00", api.ErrShort},
		wrongCase{"\x03\x00\x00", api.ErrShort},
		wrongCase{"\x02\x01a", api.ErrShort},
		wrongCase{"\x02\x01a\x02b", api.ErrShort},
		wrongCase{"\x02\x01a\x80", api.ErrShort},
		wrongCase{"\x01\x05ab", api.ErrShort},
		wrongCase{"\x05\x81\x00", api.ErrShort}, // more texts than bytes, whatever these are
		wrongCase{code.Num(1<<31) + "\x00", api.ErrShort},
		wrongCase{code.Num(1<<63) + "\x00", api.ErrShort},
		wrongCase{code.Num(math.MaxUint64) + "\x00", api.ErrShort},
		wrongCase{"\x01\x81\x00", api.ErrForm},
		wrongCase{"\x02\x01a\x81\x00", api.ErrForm},
		wrongCase{"\x02\x01a" + nines + "\x02", api.ErrForm},
	)
	for _, c := range cases {
		r := code.Read(c.bytes)
		if l := r.List(); len(l) != 0 {
			t.Errorf("List of %q = %q, want nothing", c.bytes, l)
		}
		nothing(t, "List", r, c.err)
	}
}

// P1.2: what was read ahead of an error stays told; the error is the first one.
func TestReadBehindWhatIsRight(t *testing.T) {
	r := code.Read(code.Num(300) + code.Text("a") + code.List("b", "") + "\x80\x00" + code.Num(7))
	if n, s, l := r.Num(), r.Text(), r.List(); n != 300 || s != "a" || !slices.Equal(l, []string{"b", ""}) {
		t.Errorf("read %d, %q, %q", n, s, l)
	}
	expect(t, "ahead of the error", r, 3, api.OK)
	r.Text()
	nothing(t, "Text of a wrong number", r, api.ErrForm)
}

// P1.2: that there is nothing more is an error only if more is asked for.
func TestReadToTheEnd(t *testing.T) {
	r := code.Read("\x07")
	r.Num()
	expect(t, "at the end", r, 0, api.OK)
	r.List()
	nothing(t, "behind the end", r, api.ErrShort)
}

// P1.2: of no Reader.
func TestReadNil(t *testing.T) {
	nothing(t, "nil", nil, api.ErrNil)
}

// P1.2, R3: what is told is the asker's own: two lists share nothing, and Readers of one text neither.
func TestReadTellsNewMemory(t *testing.T) {
	s := code.List("a", "b") + code.List("a", "b")
	r, other := code.Read(s), code.Read(s)
	first, second := r.List(), r.List()
	_ = append(first[:1], "x")
	first[0] = "y"
	if !slices.Equal(second, []string{"a", "b"}) || !slices.Equal(other.List(), []string{"a", "b"}) {
		t.Errorf("a list changed with another one: %q", second)
	}
	expect(t, "the other Reader", other, len(s)/2, api.OK)
}

// P1.3: what was laid is read again, in order, whatever follows what.
func TestBackInOrder(t *testing.T) {
	for n, num := range numbers() {
		for s, text := range texts() {
			for _, c := range lists() {
				r := code.Read(code.Text(s) + code.Num(n) + code.List(c.list...) + code.Num(n))
				if got := r.Text(); got != s {
					t.Fatalf("read %q, want %q", got, s)
				}
				expect(t, "behind a text", r, 2*len(num)+len(c.bytes), api.OK)
				if got := r.Num(); got != n {
					t.Fatalf("read %d, want %d", got, n)
				}
				if got := r.List(); !slices.Equal(got, c.list) {
					t.Fatalf("read %q, want %q", got, c.list)
				}
				if got := r.Num(); got != n {
					t.Fatalf("read %d, want %d", got, n)
				}
				expect(t, "behind "+text, r, 0, api.OK)
			}
		}
	}
}

// P1.3: the first numbers, up to some of three bytes, and the neighbours of each power of two, there and back.
func TestBackNumbers(t *testing.T) {
	try := func(n uint64) {
		r := code.Read(code.Num(n))
		if got := r.Num(); got != n || r.Left() != 0 || r.Err() != api.OK {
			t.Fatalf("%d comes back as %d, left %d, error %d", n, got, r.Left(), r.Err())
		}
	}
	for n := range uint64(1<<14 + 300) {
		try(n)
	}
	for i := range 64 {
		for d := range uint64(3) {
			try(uint64(1)<<i + d - 1)
		}
	}
}

// pieces calls f with each text of up to n of the parts.
func pieces(n int, parts []string, f func(string)) {
	var grow func(string, int)
	grow = func(s string, left int) {
		f(s)
		for _, p := range parts {
			if left > 0 {
				grow(s+p, left-1)
			}
		}
	}
	grow("", n)
}

// slowNum tells a number as the chapter's words do, in numbers without an end: it, its bytes, the error.
func slowNum(s string) (*big.Int, int, api.Errno) {
	n := new(big.Int)
	for i := range len(s) {
		digit := big.NewInt(int64(s[i] & 127))
		n.Add(n, digit.Lsh(digit, uint(7*i)))
		if s[i]&128 != 0 {
			continue
		}
		if i > 0 && s[i] == 0 || !n.IsUint64() {
			return nil, 0, api.ErrForm
		}
		return n, i + 1, api.OK
	}
	return nil, 0, api.ErrShort
}

// P1.2, P1.3: each text of a few bytes is either no number, as the words say, or the very bytes of the one that is told.
func TestBackNumberIsTheVeryBytes(t *testing.T) {
	parts := []string{"\x00", "\x01", "\x02", "\x7f", "\x80", "\xff", nines[:4], nines}
	pieces(5, parts, func(s string) {
		want, used, e := slowNum(s)
		r := code.Read(s)
		n := r.Num()
		if r.Err() != e {
			t.Fatalf("%q: error %d, want %d", s, r.Err(), e)
		}
		if e != api.OK {
			expect(t, "wrong", r, 0, e)
			return
		}
		if n != want.Uint64() || r.Left() != len(s)-used || code.Num(n) != s[:used] {
			t.Fatalf("%q: number %d, left %d, laid %q", s, n, r.Left(), code.Num(n))
		}
	})
}

// P1.3: each text of a few bytes that is read as a text, or as a list, is the very bytes of what is told.
func TestBackTextAndListAreTheVeryBytes(t *testing.T) {
	right := 0
	parts := []string{"\x00", "\x01", "\x02", "\x03", "a", "\x80", "\x81"}
	pieces(6, parts, func(s string) {
		r := code.Read(s)
		if text := r.Text(); r.Err() == api.OK {
			right++
			if code.Text(text) != s[:len(s)-r.Left()] {
				t.Fatalf("%q: text %q, left %d", s, text, r.Left())
			}
		}
		r = code.Read(s)
		if l := r.List(); r.Err() == api.OK {
			right++
			if code.List(l...) != s[:len(s)-r.Left()] {
				t.Fatalf("%q: list %q, left %d", s, l, r.Left())
			}
		}
	})
	if right == 0 {
		t.Error("nothing was read")
	}
}
