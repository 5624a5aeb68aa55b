package piece_test

import (
	"fmt"
	"math"
	"math/rand"
	"strings"
	"testing"
	"unsafe"

	"calamus/api"
	"calamus/piece"
)

// model is what a table should be: its bytes as one text, how many were put in, and how many steps were OK.
type model struct {
	text         string
	added, steps int
}

// step is an Insert of text at from, or a Delete from from to to.
type step struct {
	from, to int
	text     string
	delete   bool
}

// String tells a step, for what a test says.
func (s step) String() string {
	if s.delete {
		return fmt.Sprintf("Delete(%d, %d)", s.from, s.to)
	}
	return fmt.Sprintf("Insert(%d, %q)", s.from, s.text)
}

// do takes a step at a table.
func (s step) do(p *piece.Table) api.Errno {
	if s.delete {
		return p.Delete(s.from, s.to)
	}
	return p.Insert(s.from, s.text)
}

// do takes a step at the model, as the chapter's words put it.
func (m *model) do(s step) api.Errno {
	to := s.to
	if !s.delete {
		to = s.from
	}
	if s.from < 0 || to < s.from || to > len(m.text) {
		return api.ErrRange
	}
	m.text = m.text[:s.from] + s.text + m.text[to:]
	m.added += len(s.text)
	m.steps++
	return api.OK
}

// expect holds against a table all but its slices.
func (m *model) expect(t *testing.T, what any, p *piece.Table) {
	t.Helper()
	if p.String() != m.text || p.Len() != len(m.text) || p.Added() != m.added {
		t.Fatalf("%v: %q, %d bytes, %d put in; wanted %q, %d, %d", what, p.String(), p.Len(), p.Added(), m.text, len(m.text), m.added)
	}
	n := p.Pieces()
	if m.text == "" && n != 0 {
		t.Fatalf("%v: %d pieces of no bytes", what, n)
	}
	if m.text != "" && (n < 1 || n > 1+2*m.steps) {
		t.Fatalf("%v: %d pieces behind %d steps", what, n, m.steps)
	}
}

// slices holds the slices of a table against those of the model.
func (m *model) slices(t *testing.T, what any, p *piece.Table) {
	t.Helper()
	for _, from := range numbers(len(m.text)) {
		for _, to := range numbers(len(m.text)) {
			want := ""
			if 0 <= from && from <= to && to <= len(m.text) {
				want = m.text[from:to]
			}
			if s := p.Slice(from, to); s != want {
				t.Fatalf("%v: Slice(%d, %d): %q, not %q", what, from, to, s, want)
			}
		}
	}
}

// numbers are those from far below bytes of n to far above them.
func numbers(n int) []int {
	l := []int{math.MinInt, math.MinInt + 1, math.MinInt32, math.MaxInt32, 1 << 32, math.MaxInt - 1, math.MaxInt}
	for k := -2; k <= n+2; k++ {
		l = append(l, k)
	}
	return l
}

// all are all bytes there are.
func all() string {
	l := make([]byte, 256)
	for b := range l {
		l[b] = byte(b)
	}
	return string(l)
}

// bytes are texts of which tables are made, valid ones and others.
func bytes() []string {
	return []string{
		"", "a", "ac", "hello", "ab\n\ncd\n", "\u00e9\u20ac\U0001f600",
		"\x00", "\xff", "\x80\xc3", "a\xe2\x82", "\xf0\x9f\x98\x00\n\xff", all(), strings.Repeat("long ", 100),
	}
}

// parted is a table of these bytes that has a piece of its own for each, of both stores, behind steps that left bytes out.
func parted(s string) *piece.Table {
	p := piece.New("<" + s[:len(s)/2] + "-->")
	p.Delete(0, 1)
	p.Delete(p.Len()-1, p.Len())
	for i := len(s) / 2; i < len(s); i++ {
		p.Insert(i, s[i:i+1])
	}
	p.Delete(len(s), p.Len())
	for i := range len(s) / 2 {
		p.Insert(i, "#")
		p.Delete(i, i+1)
	}
	return p
}

// P6.1: what New gives, and each slice of it.
func TestNew(t *testing.T) {
	for _, s := range bytes() {
		m := model{text: s}
		p := piece.New(s)
		m.expect(t, "New", p)
		if s != "" && p.Pieces() != 1 {
			t.Errorf("%q: %d pieces", s, p.Pieces())
		}
		if len(s) < 20 {
			m.slices(t, s, p)
		}
	}
}

// P6.1: slices by hand.
func TestSliceByHand(t *testing.T) {
	for name, p := range map[string]*piece.Table{"whole": piece.New("abcdef"), "parted": parted("abcdef")} {
		for _, x := range []struct {
			from, to int
			s        string
		}{
			{0, 6, "abcdef"}, {0, 0, ""}, {6, 6, ""}, {3, 3, ""}, {0, 1, "a"}, {5, 6, "f"}, {1, 5, "bcde"}, {2, 4, "cd"},
			{-1, 3, ""}, {0, 7, ""}, {6, 7, ""}, {7, 7, ""}, {4, 3, ""}, {-1, -1, ""}, {6, 0, ""},
			{math.MinInt, math.MaxInt, ""}, {math.MaxInt, math.MinInt, ""}, {0, math.MaxInt, ""}, {math.MinInt, 6, ""},
		} {
			if s := p.Slice(x.from, x.to); s != x.s {
				t.Errorf("%s, Slice(%d, %d): %q", name, x.from, x.to, s)
			}
		}
	}
}

// P6.1: slices that go over several pieces.
func TestSlicesOfPieces(t *testing.T) {
	for _, s := range bytes() {
		p := parted(s)
		if p.String() != s || p.Len() != len(s) {
			t.Fatalf("%q: %q, %d bytes", s, p.String(), p.Len())
		}
		if len(s) < 20 {
			m := model{text: s}
			m.slices(t, s, p)
		}
	}
}

// P6.2: Insert by hand: at the beginning, at the end, within a piece, between two, texts of no bytes; and where it can't be.
func TestInsertByHand(t *testing.T) {
	p := piece.New("ac")
	m := model{text: "ac"}
	for _, x := range []struct {
		at   int
		s    string
		e    api.Errno
		text string
	}{
		{1, "b", api.OK, "abc"},
		{0, "<", api.OK, "<abc"},
		{4, ">", api.OK, "<abc>"},
		{2, "--", api.OK, "<a--bc>"},
		{3, "+", api.OK, "<a-+-bc>"},
		{0, "", api.OK, "<a-+-bc>"},
		{4, "", api.OK, "<a-+-bc>"},
		{8, "", api.OK, "<a-+-bc>"},
		{-1, "x", api.ErrRange, "<a-+-bc>"},
		{9, "x", api.ErrRange, "<a-+-bc>"},
		{-1, "", api.ErrRange, "<a-+-bc>"},
		{9, "", api.ErrRange, "<a-+-bc>"},
		{math.MinInt, "x", api.ErrRange, "<a-+-bc>"},
		{math.MaxInt, "x", api.ErrRange, "<a-+-bc>"},
		{8, "\xff\x80", api.OK, "<a-+-bc>\xff\x80"},
		{9, "\x00", api.OK, "<a-+-bc>\xff\x00\x80"},
	} {
		if e := p.Insert(x.at, x.s); e != x.e || p.String() != x.text {
			t.Errorf("Insert(%d, %q): error %d, %q", x.at, x.s, e, p.String())
		}
		m.do(step{from: x.at, text: x.s})
		m.expect(t, x, p)
		m.slices(t, x, p)
	}
}

// P6.2: what is put in between two pieces stands ahead of what stood there.
func TestInsertAtOneOffset(t *testing.T) {
	p := piece.New("")
	for _, s := range []string{"a", "b", "c"} {
		p.Insert(0, s)
	}
	if p.String() != "cba" {
		t.Errorf("%q", p.String())
	}
	p.Insert(2, "1")
	p.Insert(2, "2")
	if p.String() != "cb21a" {
		t.Errorf("%q", p.String())
	}
}

// P6.2: Delete by hand: nothing, parts of a piece, a whole one, several, all; and where it can't be.
func TestDeleteByHand(t *testing.T) {
	const s = "abcdefgh"
	for _, x := range []struct {
		from, to int
		e        api.Errno
		text     string
	}{
		{0, 0, api.OK, s}, {8, 8, api.OK, s}, {3, 3, api.OK, s},
		{0, 1, api.OK, "bcdefgh"}, {7, 8, api.OK, "abcdefg"}, {2, 3, api.OK, "abdefgh"}, {1, 7, api.OK, "ah"}, {0, 8, api.OK, ""},
		{0, 4, api.OK, "efgh"}, {4, 8, api.OK, "abcd"},
		{4, 3, api.ErrRange, s}, {8, 0, api.ErrRange, s}, {-1, 3, api.ErrRange, s}, {-1, -1, api.ErrRange, s}, {0, 9, api.ErrRange, s}, {9, 9, api.ErrRange, s},
		{math.MinInt, math.MaxInt, api.ErrRange, s}, {math.MaxInt, math.MinInt, api.ErrRange, s}, {0, math.MaxInt, api.ErrRange, s}, {math.MinInt, 8, api.ErrRange, s},
	} {
		for name, p := range map[string]*piece.Table{"whole": piece.New(s), "parted": parted(s)} {
			added, pieces := p.Added(), p.Pieces()
			if e := p.Delete(x.from, x.to); e != x.e || p.String() != x.text || p.Len() != len(x.text) {
				t.Errorf("%s, Delete(%d, %d): error %d, %q", name, x.from, x.to, e, p.String())
			}
			if p.Added() != added {
				t.Errorf("%s, Delete(%d, %d): %d bytes put in, not %d", name, x.from, x.to, p.Added(), added)
			}
			if x.e != api.OK && p.Pieces() != pieces {
				t.Errorf("%s, Delete(%d, %d), refused: %d pieces, not %d", name, x.from, x.to, p.Pieces(), pieces)
			}
		}
	}
}

// near are all steps at a table of n bytes, with offsets from one below to one above.
func near(n int) []step {
	l := []step{}
	for at := -1; at <= n+1; at++ {
		for _, s := range []string{"", "x", "\xffz"} {
			l = append(l, step{from: at, text: s})
		}
		for to := -1; to <= n+1; to++ {
			l = append(l, step{from: at, to: to, delete: true})
		}
	}
	return l
}

// walk takes the steps of a list at a new table and at the model.
func walk(t *testing.T, s string, l []step) (*piece.Table, *model) {
	t.Helper()
	p, m := piece.New(s), &model{text: s}
	for _, x := range l {
		if e, want := x.do(p), m.do(x); e != want {
			t.Fatalf("%q, %v: error %d, not %d", s, l, e, want)
		}
	}
	return p, m
}

// P6.1, P6.2, P6.3: all ways of up to three steps at some short tables, refused ones among them.
func TestShortWays(t *testing.T) {
	for _, s := range []string{"", "a", "abc"} {
		ways := [][]step{nil}
		for range 3 {
			longer := [][]step{}
			for _, l := range ways {
				p, m := walk(t, s, l)
				m.expect(t, l, p)
				if len(l) < 2 {
					m.slices(t, l, p)
				}
				for _, x := range near(len(m.text)) {
					longer = append(longer, append(l[:len(l):len(l)], x))
				}
			}
			ways = longer
		}
		for _, l := range ways {
			p, m := walk(t, s, l)
			m.expect(t, l, p)
		}
	}
}

// random is a step at a table of n bytes, now and then one that is refused.
func random(r *rand.Rand, n int) step {
	from := r.Intn(n+3) - 1
	if r.Intn(2) == 0 {
		return step{from: from, text: strings.Repeat(string([]byte{byte(r.Intn(256)), byte(r.Intn(256))}), r.Intn(4))}
	}
	return step{from: from, to: from + r.Intn(9) - 1, delete: true}
}

// P6.1, P6.2, P6.3: many steps, with Compact now and then.
func TestLongWays(t *testing.T) {
	r := rand.New(rand.NewSource(6))
	for range 60 {
		m := model{text: bytes()[r.Intn(len(bytes()))]}
		p := piece.New(m.text)
		for range 300 {
			s := random(r, len(m.text))
			if e, want := s.do(p), m.do(s); e != want {
				t.Fatalf("%v: error %d, not %d", s, e, want)
			}
			m.expect(t, s, p)
			from, to := r.Intn(len(m.text)+1), r.Intn(len(m.text)+1)
			if from <= to && p.Slice(from, to) != m.text[from:to] {
				t.Fatalf("%v: Slice(%d, %d): %q, not %q", s, from, to, p.Slice(from, to), m.text[from:to])
			}
			if r.Intn(50) == 0 {
				p.Compact()
				m.added, m.steps = 0, 0
				m.expect(t, "Compact", p)
			}
		}
	}
}

// P6.3: what was put in counts also when it is taken out; what was refused does not, nor does what is taken out.
func TestAddedByHand(t *testing.T) {
	p := piece.New("hello")
	for _, x := range []struct {
		step  step
		added int
	}{
		{step{from: 5, text: " you"}, 4},
		{step{from: 0, text: ""}, 4},
		{step{from: 10, text: "xyz"}, 4},
		{step{from: -1, text: "xyz"}, 4},
		{step{from: 0, to: 2, delete: true}, 4},
		{step{from: 0, to: 7, delete: true}, 4},
		{step{from: 1, text: "z"}, 4},
		{step{from: 0, text: "\u20ac\xff"}, 8},
	} {
		x.step.do(p)
		if p.Added() != x.added {
			t.Errorf("%v: %d", x.step, p.Added())
		}
	}
}

// P6.3: the bound of pieces behind very many steps, of those steps that cut most.
func TestPiecesBound(t *testing.T) {
	s := strings.Repeat("abc", 300)
	p, m := piece.New(s), model{text: s}
	for k := range 300 {
		x := step{from: 2*k + 1, to: 2*k + 2, delete: true}
		if k%2 == 0 {
			x = step{from: 3*k + 1, text: "x"}
		}
		x.do(p)
		m.do(x)
		m.expect(t, x, p)
	}
	// Steps of nothing count as well; what is refused doesn't.
	for range 5 {
		p = piece.New("ab")
		p.Insert(3, "x")
		p.Delete(1, 0)
		p.Delete(-1, 1)
		if p.Pieces() != 1 {
			t.Errorf("%d pieces behind what was refused", p.Pieces())
		}
	}
	p.Insert(1, "")
	p.Delete(1, 1)
	if n := p.Pieces(); n < 1 || n > 5 {
		t.Errorf("%d pieces behind two steps of nothing", n)
	}
}

// P6.3: a table without bytes has no pieces, however it became one; texts of no bytes are none.
func TestNoPieces(t *testing.T) {
	p := piece.New("")
	for range 3 {
		if p.Insert(0, "") != api.OK || p.Delete(0, 0) != api.OK || p.Pieces() != 0 || p.Len() != 0 || p.String() != "" {
			t.Errorf("%d pieces, %q", p.Pieces(), p.String())
		}
	}
	p = parted("abcdef")
	p.Delete(0, 6)
	if p.Pieces() != 0 || p.Len() != 0 || p.String() != "" {
		t.Errorf("all taken out: %d pieces, %q", p.Pieces(), p.String())
	}
	p.Compact()
	if p.Pieces() != 0 || p.Len() != 0 || p.Added() != 0 {
		t.Errorf("compact: %d pieces, %d put in", p.Pieces(), p.Added())
	}
	if p.Insert(0, "ab") != api.OK || p.Pieces() != 1 || p.String() != "ab" || p.Added() != 2 {
		t.Errorf("put in again: %d pieces, %q", p.Pieces(), p.String())
	}
}

// P6.3: Compact leaves the bytes, and counts from anew.
func TestCompact(t *testing.T) {
	for _, s := range bytes() {
		for name, p := range map[string]*piece.Table{"whole": piece.New(s), "parted": parted(s)} {
			m := model{text: s}
			for range 2 {
				p.Compact()
				m.expect(t, name, p)
			}
			if s != "" && p.Pieces() != 1 {
				t.Errorf("%s: %d pieces", name, p.Pieces())
			}
			for _, x := range []step{{from: len(s) / 2, text: "xyz"}, {from: 0, to: len(s) / 2, delete: true}, {from: 1, text: "\xff"}} {
				x.do(p)
				m.do(x)
				m.expect(t, name, p)
			}
			if p.Added() != 4 {
				t.Errorf("%s: %d put in", name, p.Added())
			}
		}
	}
}

// P6.4: a nil table: ErrNone comes ahead of all else.
func TestNilTable(t *testing.T) {
	var p *piece.Table
	for range 2 {
		if p.Len() != 0 || p.Pieces() != 0 || p.Added() != 0 || p.String() != "" {
			t.Error("it has something")
		}
		for _, from := range numbers(0) {
			if e := p.Insert(from, "x"); e != api.ErrNone {
				t.Errorf("Insert(%d): error %d", from, e)
			}
			for _, to := range numbers(0) {
				if e := p.Delete(from, to); e != api.ErrNone || p.Slice(from, to) != "" {
					t.Errorf("Delete(%d, %d): error %d", from, to, e)
				}
			}
		}
		p.Compact()
	}
}

// P6.4: a table that New did not give has no bytes, whatever is asked first, and is as good as one that it gave.
func TestTableOfNobody(t *testing.T) {
	for name, ask := range map[string]func(*piece.Table){
		"nothing": func(*piece.Table) {},
		"Insert":  func(p *piece.Table) { p.Insert(0, "") },
		"Delete":  func(p *piece.Table) { p.Delete(0, 0) },
		"refused": func(p *piece.Table) { p.Insert(1, "x"); p.Delete(0, 1); p.Delete(1, 0) },
		"Compact": func(p *piece.Table) { p.Compact() },
		"Slice":   func(p *piece.Table) { p.Slice(0, 0); p.Slice(0, 9) },
	} {
		p := &piece.Table{}
		ask(p)
		m := model{}
		m.expect(t, name, p)
		m.slices(t, name, p)
		for _, x := range []step{{from: 1, text: "x"}, {from: 0, text: "ad"}, {from: 1, text: "bc"}, {from: 0, to: 5, delete: true}, {from: 0, to: 1, delete: true}} {
			if e, want := x.do(p), m.do(x); e != want {
				t.Errorf("%s, %v: error %d, not %d", name, x, e, want)
			}
			m.expect(t, name, p)
		}
		m.slices(t, name, p)
		p.Compact()
		if p.String() != "bcd" || p.Pieces() != 1 || p.Added() != 0 {
			t.Errorf("%s: %q, %d pieces, %d put in", name, p.String(), p.Pieces(), p.Added())
		}
	}
}

// P6.4: a copy was not given either: it has no bytes, and leaves the one that it was made of alone.
func TestCopyOfTable(t *testing.T) {
	zero := &piece.Table{}
	zero.Insert(0, "ab")
	for name, first := range map[string]*piece.Table{"given": piece.New("ab"), "zero": zero} {
		first.Insert(1, "-")
		added := first.Added()
		copied := *first
		m := model{}
		m.expect(t, name, &copied)
		if copied.Insert(0, "xyz") != api.OK || first.Insert(2, "+") != api.OK {
			t.Errorf("%s: Insert", name)
		}
		if copied.String() != "xyz" || first.String() != "a-+b" || copied.Added() != 3 || first.Added() != added+1 {
			t.Errorf("%s: %q, %q", name, copied.String(), first.String())
		}
	}
}

// P6.5: what is put in and taken out again, at once or in the order in which it came, leaves the bytes.
func TestThereAndBack(t *testing.T) {
	for _, s := range bytes() {
		for _, x := range []string{"", "x", "\n", "two words", "\xff\x80"} {
			for name, p := range map[string]*piece.Table{"whole": piece.New(s), "parted": parted(s)} {
				l := []int{0, len(s), len(s) / 2, len(s) / 3}
				for _, at := range l {
					if p.Insert(at, x) != api.OK || p.Delete(at, at+len(x)) != api.OK || p.String() != s {
						t.Fatalf("%s, %q at %d: %q", name, x, at, p.String())
					}
				}
				for _, at := range l {
					p.Insert(at, x)
				}
				for k := range l {
					at := l[len(l)-1-k]
					p.Delete(at, at+len(x))
				}
				if p.String() != s || p.Len() != len(s) {
					t.Fatalf("%s, %q: %q", name, x, p.String())
				}
			}
		}
	}
}

// P6.5: what was told stays as it is, whatever is done with the table then.
func TestToldStays(t *testing.T) {
	p := piece.New("abcd")
	p.Insert(2, "--")
	whole, some := p.String(), p.Slice(1, 4)
	for k := range 2000 {
		p.Insert(k%5, "xyz")
		p.Delete(k%3, k%3+2)
		if k%500 == 0 {
			p.Compact()
		}
	}
	p.Delete(0, p.Len())
	p.Insert(0, "ABCDEFGH")
	if whole != "ab--cd" || some != "b--" {
		t.Errorf("%q, %q", whole, some)
	}
}

// Tables know nothing of each other, also those of the same bytes.
func TestTablesApart(t *testing.T) {
	a, b := piece.New("ab"), piece.New("ab")
	a.Insert(1, "x")
	b.Insert(1, "yz")
	c := piece.New(a.String())
	a.Insert(2, "1")
	b.Delete(0, 1)
	c.Delete(1, 2)
	if a.String() != "ax1b" || b.String() != "yzb" || c.String() != "ab" || a.Added() != 2 || b.Added() != 2 || c.Added() != 0 {
		t.Errorf("%q, %q, %q", a.String(), b.String(), c.String())
	}
}

// What is handed in is not kept, and an answer is new memory.
func TestNothingIsShared(t *testing.T) {
	first, second := []byte("abcd"), []byte("xy")
	p := piece.New(unsafe.String(&first[0], len(first)))
	p.Insert(2, unsafe.String(&second[0], len(second)))
	copy(first, "####")
	copy(second, "##")
	if p.String() != "abxycd" {
		t.Errorf("%q", p.String())
	}
	p.Compact()
	for _, at := range [][2]int{{0, 6}, {1, 5}, {3, 4}} {
		s := p.Slice(at[0], at[1])
		copy(unsafe.Slice(unsafe.StringData(s), len(s)), "######")
		if p.String() != "abxycd" {
			t.Fatalf("%v: %q", at, p.String())
		}
	}
}
