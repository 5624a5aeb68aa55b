package index_test

import (
	"fmt"
	"math"
	"math/rand"
	"strings"
	"testing"
	"unicode/utf8"
	"unsafe"

	"calamus/api"
	"calamus/index"
	"calamus/line"
)

// step is an Insert of text at from, or a Delete from from to to.
type step struct {
	from, to int
	text     string
	delete   bool
}

// String tells a step, for what a test says.
func (s step) String() string {
	if s.delete {
		return fmt.Sprintf("Delete(%d, %d)", s.from, s.to)
	}
	return fmt.Sprintf("Insert(%d, %q)", s.from, s.text)
}

// do takes a step at an index.
func (s step) do(x *index.Index) api.Errno {
	if s.delete {
		return x.Delete(s.from, s.to)
	}
	return x.Insert(s.from, s.text)
}

// on takes a step at bytes, as the chapter's words put it.
func (s step) on(text string) (string, api.Errno) {
	to := s.to
	if !s.delete {
		to = s.from
	}
	if s.from < 0 || to < s.from || to > len(text) {
		return text, api.ErrRange
	}
	return text[:s.from] + s.text + text[to:], api.OK
}

// numbers are those from far below n to far above it.
func numbers(n int) []int {
	l := []int{math.MinInt, math.MinInt + 1, math.MinInt32, math.MaxInt32, 1 << 32, math.MaxInt - 1, math.MaxInt}
	for k := -3; k <= n+3; k++ {
		l = append(l, k)
	}
	return l
}

// cut tells from where to where the lines of bytes go, by the library's own way to part them.
func cut(s string) [][2]int {
	l, at := [][2]int{}, 0
	for _, one := range strings.Split(s, "\n") {
		l = append(l, [2]int{at, at + len(one)})
		at += len(one) + 1
	}
	return l
}

// of tells the line of an offset by counting the line feeds ahead of it; -1, if there is no such offset.
func of(s string, p int) int {
	if p < 0 || p > len(s) {
		return -1
	}
	return strings.Count(s[:p], "\n")
}

// expect holds all that an index tells against the bytes that it should be of.
func expect(t *testing.T, what any, x *index.Index, s string) {
	t.Helper()
	l := cut(s)
	if x.Len() != len(s) || x.Lines() != len(l) {
		t.Fatalf("%v, %q: %d bytes, %d lines", what, s, x.Len(), x.Lines())
	}
	for _, k := range numbers(len(l)) {
		want := [2]int{-1, -1}
		if k >= 0 && k < len(l) {
			want = l[k]
		}
		if start, end := x.Start(k), x.End(k); start != want[0] || end != want[1] {
			t.Fatalf("%v, %q, line %d: %d to %d, not %d to %d", what, s, k, start, end, want[0], want[1])
		}
	}
	for _, p := range numbers(len(s)) {
		if k := x.Of(p); k != of(s, p) {
			t.Fatalf("%v, %q, Of(%d): %d, not %d", what, s, p, k, of(s, p))
		}
	}
}

// all are all bytes there are.
func all() string {
	l := make([]byte, 256)
	for b := range l {
		l[b] = byte(b)
	}
	return string(l)
}

// short are all bytes of up to n signs, one of which is a line feed.
func short(n int) []string {
	l := []string{""}
	for from := 0; n > 0; n-- {
		to := len(l)
		for _, s := range l[from:to] {
			l = append(l, s+"\n", s+"a", s+"\xff")
		}
		from = to
	}
	return l
}

// bytes are some of which indexes are made: valid texts and others, with and without a line feed at the end, line feeds alone, empty lines.
func bytes() []string {
	return append(short(4),
		"ab\ncd", "ab\ncd\n", "ab\n\ncd", "ab\n\n\ncd\n\n", "\nab", "\n\nab\n\n", strings.Repeat("\n", 9), "one two three",
		// What ends no line here, though it does elsewhere.
		"a\rb\r\nc\vd\fe\x00f", "\r\n\v\f\x00\r", "\u0085\u2028\u2029x\n",
		// Runes one byte of which differs from a line feed by its high bit alone, and longer ones.
		"\u010a\u208a\n\u00e9\u20ac\n\U0001f600",
		// No valid text: halves of runes, ahead of a line feed and behind one.
		"\x80\xc3\n\xff", "a\xe2\x82\n\x82\n\xf0\x9f\x98", "\xc0\x8a\n\xed\xa0\x80\n", "\xf0\n\x9f\n\x98\n\x80", "\x8a\x8a\n\x8a",
		all(), all()+all(), strings.Repeat("long ", 50)+"\n"+strings.Repeat("\n", 20),
	)
}

// P7.1: indexes by hand: no bytes, no line feed, one at the end, at the beginning, alone, and several in a row.
func TestNewByHand(t *testing.T) {
	for _, x := range []struct {
		s     string
		lines [][2]int
		of    []int
	}{
		{"", [][2]int{{0, 0}}, []int{0}},
		{"ab", [][2]int{{0, 2}}, []int{0, 0, 0}},
		{"\n", [][2]int{{0, 0}, {1, 1}}, []int{0, 1}},
		{"\n\n\n", [][2]int{{0, 0}, {1, 1}, {2, 2}, {3, 3}}, []int{0, 1, 2, 3}},
		{"ab\n", [][2]int{{0, 2}, {3, 3}}, []int{0, 0, 0, 1}},
		{"\nab", [][2]int{{0, 0}, {1, 3}}, []int{0, 1, 1, 1}},
		{"ab\ncd", [][2]int{{0, 2}, {3, 5}}, []int{0, 0, 0, 1, 1, 1}},
		{"ab\n\ncd\n", [][2]int{{0, 2}, {3, 3}, {4, 6}, {7, 7}}, []int{0, 0, 0, 1, 2, 2, 2, 3}},
		{"a\r\nb\vc", [][2]int{{0, 2}, {3, 6}}, []int{0, 0, 0, 1, 1, 1, 1}},
		{"\u010a\n\xff\x8a", [][2]int{{0, 2}, {3, 5}}, []int{0, 0, 0, 1, 1, 1}},
	} {
		i := index.New(x.s)
		if i.Len() != len(x.s) || i.Lines() != len(x.lines) {
			t.Errorf("%q: %d bytes, %d lines", x.s, i.Len(), i.Lines())
		}
		for k, want := range x.lines {
			if start, end := i.Start(k), i.End(k); start != want[0] || end != want[1] {
				t.Errorf("%q, line %d: %d to %d", x.s, k, start, end)
			}
		}
		for p, want := range x.of {
			if k := i.Of(p); k != want {
				t.Errorf("%q, Of(%d): %d, not %d", x.s, p, k, want)
			}
		}
		for _, n := range []int{math.MinInt, -1, len(x.lines), math.MaxInt} {
			if start, end := i.Start(n), i.End(n); start != -1 || end != -1 {
				t.Errorf("%q, line %d: %d to %d", x.s, n, start, end)
			}
		}
		for _, p := range []int{math.MinInt, -1, len(x.s) + 1, math.MaxInt} {
			if k := i.Of(p); k != -1 {
				t.Errorf("%q, Of(%d): %d", x.s, p, k)
			}
		}
	}
}

// P7.1: all that an index tells, of all bytes.
func TestNew(t *testing.T) {
	for _, s := range bytes() {
		expect(t, "New", index.New(s), s)
	}
}

// P7.1: of a valid text an index tells what layer 4 tells of it.
func TestAsLayer4(t *testing.T) {
	for _, s := range bytes() {
		if !utf8.ValidString(s) {
			continue
		}
		x := index.New(s)
		if x.Lines() != line.Count(s) {
			t.Errorf("%q: %d lines", s, x.Lines())
		}
		for _, n := range numbers(len(s)) {
			if x.Start(n) != line.Start(s, n) || x.End(n) != line.End(s, n) || x.Of(n) != line.Of(s, n) {
				t.Errorf("%q, %d: from %d to %d, line %d", s, n, x.Start(n), x.End(n), x.Of(n))
			}
		}
	}
}

// P7.2: Insert by hand, step behind step: at the beginning, at the end, at a line feed, behind one, within a line; bytes of no and of many line feeds, and of none; and where it can't be.
func TestInsertByHand(t *testing.T) {
	x := index.New("a\nb")
	if x.Insert(1, "\n") != api.OK || x.Lines() != 3 || x.Start(1) != 2 || x.End(1) != 2 {
		t.Errorf("the chapter's example: %d lines, line 1 from %d to %d", x.Lines(), x.Start(1), x.End(1))
	}
	x = index.New("ab\ncd")
	for _, y := range []struct {
		at int
		s  string
		e  api.Errno
		to string
	}{
		{0, "x", api.OK, "xab\ncd"},
		{6, "y", api.OK, "xab\ncdy"},
		{3, "z", api.OK, "xabz\ncdy"},
		{4, "\n", api.OK, "xabz\n\ncdy"},
		{6, "-", api.OK, "xabz\n\n-cdy"},
		{2, "1\n2\n\n3", api.OK, "xa1\n2\n\n3bz\n\n-cdy"},
		{0, "\n\n", api.OK, "\n\nxa1\n2\n\n3bz\n\n-cdy"},
		{18, "\n", api.OK, "\n\nxa1\n2\n\n3bz\n\n-cdy\n"},
		{19, "\n", api.OK, "\n\nxa1\n2\n\n3bz\n\n-cdy\n\n"},
		{20, "e", api.OK, "\n\nxa1\n2\n\n3bz\n\n-cdy\n\ne"},
		{0, "", api.OK, "\n\nxa1\n2\n\n3bz\n\n-cdy\n\ne"},
		{5, "", api.OK, "\n\nxa1\n2\n\n3bz\n\n-cdy\n\ne"},
		{21, "", api.OK, "\n\nxa1\n2\n\n3bz\n\n-cdy\n\ne"},
		{-1, "\n", api.ErrRange, "\n\nxa1\n2\n\n3bz\n\n-cdy\n\ne"},
		{22, "\n", api.ErrRange, "\n\nxa1\n2\n\n3bz\n\n-cdy\n\ne"},
		{-1, "", api.ErrRange, "\n\nxa1\n2\n\n3bz\n\n-cdy\n\ne"},
		{22, "", api.ErrRange, "\n\nxa1\n2\n\n3bz\n\n-cdy\n\ne"},
		{math.MinInt, "x", api.ErrRange, "\n\nxa1\n2\n\n3bz\n\n-cdy\n\ne"},
		{math.MaxInt, "x\n", api.ErrRange, "\n\nxa1\n2\n\n3bz\n\n-cdy\n\ne"},
		{3, "\xff\n\x80", api.OK, "\n\nx\xff\n\x80a1\n2\n\n3bz\n\n-cdy\n\ne"},
	} {
		if e := x.Insert(y.at, y.s); e != y.e {
			t.Errorf("Insert(%d, %q): error %d", y.at, y.s, e)
		}
		expect(t, y.s, x, y.to)
	}
}

// P7.2: Delete by hand: nothing, bytes of a line, a line feed, several lines, empty ones, all; and where it can't be.
func TestDeleteByHand(t *testing.T) {
	const s = "ab\n\ncd\nef\n"
	for _, y := range []struct {
		from, to int
		e        api.Errno
		text     string
	}{
		{0, 0, api.OK, s}, {10, 10, api.OK, s}, {2, 2, api.OK, s}, {3, 3, api.OK, s},
		{0, 1, api.OK, "b\n\ncd\nef\n"}, {1, 2, api.OK, "a\n\ncd\nef\n"}, {0, 2, api.OK, "\n\ncd\nef\n"}, {4, 6, api.OK, "ab\n\n\nef\n"},
		{2, 3, api.OK, "ab\ncd\nef\n"}, {3, 4, api.OK, "ab\ncd\nef\n"}, {2, 4, api.OK, "abcd\nef\n"}, {6, 7, api.OK, "ab\n\ncdef\n"}, {9, 10, api.OK, "ab\n\ncd\nef"},
		{0, 3, api.OK, "\ncd\nef\n"}, {4, 7, api.OK, "ab\n\nef\n"}, {1, 5, api.OK, "ad\nef\n"}, {1, 8, api.OK, "af\n"}, {3, 7, api.OK, "ab\nef\n"},
		{0, 10, api.OK, ""}, {0, 9, api.OK, "\n"}, {2, 10, api.OK, "ab"}, {3, 10, api.OK, "ab\n"}, {0, 7, api.OK, "ef\n"},
		{4, 3, api.ErrRange, s}, {10, 0, api.ErrRange, s}, {-1, 3, api.ErrRange, s}, {-1, -1, api.ErrRange, s}, {-2, -1, api.ErrRange, s},
		{0, 11, api.ErrRange, s}, {11, 11, api.ErrRange, s}, {10, 11, api.ErrRange, s}, {11, 12, api.ErrRange, s}, {11, 10, api.ErrRange, s},
		{math.MinInt, math.MaxInt, api.ErrRange, s}, {math.MaxInt, math.MinInt, api.ErrRange, s}, {0, math.MaxInt, api.ErrRange, s}, {math.MinInt, 10, api.ErrRange, s},
	} {
		x := index.New(s)
		if e := x.Delete(y.from, y.to); e != y.e {
			t.Errorf("Delete(%d, %d): error %d", y.from, y.to, e)
		}
		expect(t, [2]int{y.from, y.to}, x, y.text)
	}
}

// near are all steps at n bytes, with offsets from one below to one above.
func near(n int) []step {
	l := []step{}
	for at := -1; at <= n+1; at++ {
		for _, s := range []string{"", "\n", "x\n\xff"} {
			l = append(l, step{from: at, text: s})
		}
		for to := -1; to <= n+1; to++ {
			l = append(l, step{from: at, to: to, delete: true})
		}
	}
	return l
}

// walk takes the steps of a list at a new index and at its bytes.
func walk(t *testing.T, s string, l []step) (*index.Index, string) {
	t.Helper()
	x := index.New(s)
	for _, y := range l {
		text, want := y.on(s)
		if e := y.do(x); e != want {
			t.Fatalf("%q, %v: error %d, not %d", s, l, e, want)
		}
		s = text
	}
	return x, s
}

// P7.2, P7.4: each step at short bytes, and each behind another one, refused ones among them.
func TestShortWays(t *testing.T) {
	for _, s := range short(3) {
		for _, a := range near(len(s)) {
			x, text := walk(t, s, []step{a})
			expect(t, a, x, text)
			if len(s) > 2 {
				continue
			}
			for _, b := range near(len(text)) {
				x, text := walk(t, s, []step{a, b})
				expect(t, []step{a, b}, x, text)
			}
		}
	}
}

// random is a step at n bytes, now and then one that is refused.
func random(r *rand.Rand, n int) step {
	from := r.Intn(n+3) - 1
	if r.Intn(2) == 0 {
		text := []string{"", "\n", "x", "\n\n", "ab\ncd", "\xff\n", "\n\x80\xc3", "\u20ac\n\n\n\u010a"}
		return step{from: from, text: text[r.Intn(len(text))]}
	}
	return step{from: from, to: from + r.Intn(9) - 1, delete: true}
}

// P7.4: behind many steps an index tells what one tells that is made anew.
func TestLongWays(t *testing.T) {
	r := rand.New(rand.NewSource(7))
	for range 40 {
		l := bytes()
		s := l[r.Intn(len(l))]
		x := index.New(s)
		for range 200 {
			y := random(r, len(s))
			text, want := y.on(s)
			if e := y.do(x); e != want {
				t.Fatalf("%q, %v: error %d, not %d", s, y, e, want)
			}
			s = text
			expect(t, y, x, s)
			same(t, y, x, index.New(s))
		}
	}
}

// same holds an index against another one.
func same(t *testing.T, what any, a, b *index.Index) {
	t.Helper()
	if a.Len() != b.Len() || a.Lines() != b.Lines() {
		t.Fatalf("%v: %d and %d bytes, %d and %d lines", what, a.Len(), b.Len(), a.Lines(), b.Lines())
	}
	for k := range max(a.Len(), a.Lines()) + 1 {
		if a.Start(k) != b.Start(k) || a.End(k) != b.End(k) || a.Of(k) != b.Of(k) {
			t.Fatalf("%v, %d: from %d and %d to %d and %d, lines %d and %d", what, k, a.Start(k), b.Start(k), a.End(k), b.End(k), a.Of(k), b.Of(k))
		}
	}
}

// P7.4: what is put in and taken out again leaves an index as it was, also when it had become one of no bytes.
func TestThereAndBack(t *testing.T) {
	for _, s := range bytes() {
		x := index.New(s)
		for _, y := range []string{"", "x", "\n", "\n\n\n", "two\nlines\n", "\xff\n\x80"} {
			for _, at := range []int{0, len(s), len(s) / 2, len(s) / 3} {
				if x.Insert(at, y) != api.OK || x.Delete(at, at+len(y)) != api.OK {
					t.Fatalf("%q, %q at %d", s, y, at)
				}
			}
		}
		expect(t, "there and back", x, s)
		x.Delete(0, len(s))
		expect(t, "all taken out", x, "")
		x.Insert(0, s)
		expect(t, "put in again", x, s)
	}
}

// P7.4: byte by byte, from the beginning on and from the end on, an index becomes one of all of them.
func TestByteByByte(t *testing.T) {
	for _, s := range bytes() {
		on, back := index.New(""), &index.Index{}
		for at := range len(s) {
			on.Insert(at, s[at:at+1])
			back.Insert(0, s[len(s)-1-at:len(s)-at])
		}
		expect(t, "from the beginning on", on, s)
		expect(t, "from the end on", back, s)
		for range len(s) {
			on.Delete(0, 1)
			back.Delete(back.Len()-1, back.Len())
		}
		expect(t, "taken out", on, "")
		expect(t, "taken out", back, "")
	}
}

// P7.3: a nil index: ErrNone comes ahead of all else, and 0 is not a line of it.
func TestNilIndex(t *testing.T) {
	var x *index.Index
	for range 2 {
		if x.Len() != 0 || x.Lines() != 0 {
			t.Errorf("%d bytes, %d lines", x.Len(), x.Lines())
		}
		for _, from := range numbers(0) {
			if x.Start(from) != -1 || x.End(from) != -1 || x.Of(from) != -1 {
				t.Errorf("%d: from %d to %d, line %d", from, x.Start(from), x.End(from), x.Of(from))
			}
			if a, b := x.Insert(from, "x\n"), x.Insert(from, ""); a != api.ErrNone || b != api.ErrNone {
				t.Errorf("Insert(%d): errors %d, %d", from, a, b)
			}
			for _, to := range numbers(0) {
				if e := x.Delete(from, to); e != api.ErrNone {
					t.Errorf("Delete(%d, %d): error %d", from, to, e)
				}
			}
		}
	}
}

// P7.3: an index that New did not give is one of no bytes, whatever is asked first, and can be used as one that it gave.
func TestIndexOfNobody(t *testing.T) {
	for name, ask := range map[string]func(*index.Index){
		"nothing": func(*index.Index) {},
		"told":    func(x *index.Index) { x.Len(); x.Lines(); x.Start(0); x.End(0); x.Of(0) },
		"Insert":  func(x *index.Index) { x.Insert(0, "") },
		"Delete":  func(x *index.Index) { x.Delete(0, 0) },
		"refused": func(x *index.Index) { x.Insert(1, "\n"); x.Delete(0, 1); x.Delete(1, 0); x.Insert(-1, "") },
	} {
		x, s := &index.Index{}, ""
		ask(x)
		expect(t, name, x, "")
		for _, y := range []step{{from: 1, text: "\n"}, {from: 0, text: "a\nd"}, {from: 2, text: "b\n\nc"}, {from: 0, to: 8, delete: true}, {from: 0, to: 2, delete: true}} {
			text, want := y.on(s)
			if e := y.do(x); e != want {
				t.Errorf("%s, %v: error %d, not %d", name, y, e, want)
			}
			s = text
			expect(t, name, x, s)
		}
	}
}

// P7.3: a copy was not given either: it is one of no bytes, and leaves the one that it was made of alone.
func TestCopyOfIndex(t *testing.T) {
	zero := &index.Index{}
	zero.Insert(0, "ab\n\ncd")
	for name, first := range map[string]*index.Index{"given": index.New("ab\n\ncd"), "zero": zero} {
		copied := *first
		expect(t, name, &copied, "")
		if copied.Insert(0, "xyz\n\n\n") != api.OK || first.Insert(3, "+") != api.OK || copied.Delete(0, 1) != api.OK {
			t.Errorf("%s: refused", name)
		}
		expect(t, name, &copied, "yz\n\n\n")
		expect(t, name, first, "ab\n+\ncd")
	}
}

// Indexes know nothing of each other, also those of the same bytes.
func TestIndexesApart(t *testing.T) {
	a, b := index.New("a\nb"), index.New("a\nb")
	a.Insert(1, "\n\n")
	b.Delete(0, 2)
	expect(t, "a", a, "a\n\n\nb")
	expect(t, "b", b, "b")
}

// What is handed in is not kept.
func TestNothingIsShared(t *testing.T) {
	first, second := []byte("ab\ncd"), []byte("x\ny")
	x := index.New(unsafe.String(&first[0], len(first)))
	x.Insert(4, unsafe.String(&second[0], len(second)))
	copy(first, "\n\n\n\n\n")
	copy(second, "\n\n\n")
	expect(t, "bytes written over", x, "ab\ncx\nyd")
}

// Long bytes, of a long line and of many lines.
func TestLongBytes(t *testing.T) {
	const n = 100000
	x := index.New(strings.Repeat("\u20ac", n) + "\n" + strings.Repeat("a\n", n))
	if x.Len() != 5*n+1 || x.Lines() != n+2 || x.End(0) != 3*n || x.Start(1) != 3*n+1 || x.Start(n+1) != x.Len() || x.Of(3*n) != 0 || x.Of(x.Len()) != n+1 {
		t.Error("as New gives it")
	}
	for k := range n {
		if s := x.Start(k + 1); s != 3*n+1+2*k || x.End(k+1) != s+1 || x.Of(s) != k+1 || x.Of(s+1) != k+1 {
			t.Fatalf("line %d: from %d to %d", k+1, s, x.End(k+1))
		}
	}
	x.Insert(0, strings.Repeat("\n", n))
	if x.Lines() != 2*n+2 || x.End(n) != 4*n || x.Start(n+1) != 4*n+1 || x.Of(n) != n || x.Of(n-1) != n-1 {
		t.Error("lines put in")
	}
	x.Delete(1, 4*n)
	if x.Lines() != n+3 || x.Len() != 2*n+2 || x.End(1) != 1 || x.Start(2) != 2 || x.End(2) != 3 {
		t.Error("lines taken out")
	}
}
