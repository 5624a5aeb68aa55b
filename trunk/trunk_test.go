package trunk_test

import (
	"math"
	"math/rand"
	"slices"
	"strconv"
	"strings"
	"testing"
	"unicode/utf8"
	"unsafe"

	"calamus/api"
	"calamus/change"
	"calamus/code"
	"calamus/tree"
	"calamus/trunk"
)

// nodes are what a tree has.
type nodes = []api.Node

// root is node 0 of a tree of it alone.
func root() api.Node {
	return api.Node{Up: -1, Next: -1}
}

// made is a tree whose nodes have these Ups, from node 1 on, each of which has the last one of its kids as its Next.
func made(cur int, ups ...int) api.Tree {
	t := api.Tree{Nodes: nodes{root()}, Cur: cur}
	for i, up := range ups {
		t.Nodes = append(t.Nodes, api.Node{Up: up, Next: -1})
		t.Nodes[up].Next = i + 1
	}
	return t
}

// chain is a tree of n nodes, each of which is the kid of the one ahead of it.
func chain(n, cur int) api.Tree {
	ups := []int{}
	for k := range n - 1 {
		ups = append(ups, k)
	}
	return made(cur, ups...)
}

// with is a tree whose node k is another one.
func with(t api.Tree, k int, set func(n *api.Node)) api.Tree {
	t.Nodes = slices.Clone(t.Nodes)
	set(&t.Nodes[k])
	return t
}

// bush is a tree of six nodes, of whose fields no two have the same number, but for those of the root, and Ups that are the same.
func bush(cur int) api.Tree {
	t := made(cur, 0, 1, 1, 2, 0)
	for k := 1; k < 6; k++ {
		t.Nodes[k].Before, t.Nodes[k].After = 100+k, 200+k
		t.Nodes[k].Change = api.Change{At: 70000 + k, Old: strings.Repeat("o\x00", k), New: strings.Repeat("\xffn\n", 2*k)}
	}
	return t
}

// letters is a tree of texts, and where the cursor was in them: 0 "", 1 "a", 2 "ab", 3 "c" beside 2, 4 "\u20acb" below 2, 5 "\u00e9" below the root.
func letters(cur int) (api.Tree, []string) {
	t := made(cur, 0, 1, 1, 2, 0)
	t.Nodes[1] = api.Node{Up: 0, Next: 3, After: 1, Change: api.Change{New: "a"}}
	t.Nodes[2] = api.Node{Up: 1, Next: 4, Before: 1, After: 2, Change: api.Change{At: 1, New: "b"}}
	t.Nodes[3] = api.Node{Up: 1, Next: -1, Before: 1, After: 0, Change: api.Change{Old: "a", New: "c"}}
	t.Nodes[4] = api.Node{Up: 2, Next: -1, Before: 2, After: 3, Change: api.Change{Old: "a", New: "\u20ac"}}
	t.Nodes[5] = api.Node{Up: 0, Next: -1, After: 2, Change: api.Change{New: "\u00e9"}}
	return t, []string{"", "a", "ab", "c", "\u20acb", "\u00e9"}
}

// rights are trees that may be, and in which all numbers are layer 1's, and all texts have at most 4096 bytes.
func rights() []api.Tree {
	full := strings.Repeat("f", 4096)
	l := []api.Tree{tree.New(), chain(1024, 0), chain(1024, 1023), made(1, make([]int, 1023)...)}
	for cur := range 6 {
		x, _ := letters(cur)
		l = append(l, bush(cur), x, with(bush(cur), 1, func(n *api.Node) { n.Next = 2 }))
	}
	for k := 1; k < 6; k++ {
		for _, p := range []int{0, 255, 256, 65535, 65536, 1<<24 - 1, 1 << 24, math.MaxInt32} {
			l = append(l, with(bush(3), k, func(n *api.Node) { n.Before = p }))
			l = append(l, with(bush(3), k, func(n *api.Node) { n.After = p }))
			l = append(l, with(bush(3), k, func(n *api.Node) { n.Change.At = p }))
		}
		l = append(l, with(bush(3), k, func(n *api.Node) { n.Change.Old = full }), with(bush(3), k, func(n *api.Node) { n.Change.New = full }))
	}
	return l
}

// wrongs are trees that may not be, each but for one thing; their numbers can be written.
func wrongs() []api.Tree {
	l := []api.Tree{
		{}, {Nodes: nodes{}}, {Cur: 1}, {Nodes: nodes{{Up: -1}}}, {Nodes: nodes{{Next: -1}}}, {Nodes: nodes{root(), root()}},
		chain(1025, 0), chain(1025, 1024), made(3, make([]int, 3000)...),
		// Too many, though the first 1024 alone may be.
		with(made(1, make([]int, 1024)...), 0, func(n *api.Node) { n.Next = 1 }),
		with(made(1, make([]int, 5000)...), 0, func(n *api.Node) { n.Next = 1 }),
		bush(6), bush(7), bush(1024), bush(math.MaxInt32),
	}
	for _, set := range []func(n *api.Node){
		func(n *api.Node) { n.Up = 0 }, func(n *api.Node) { n.Next = -1 }, func(n *api.Node) { n.Next = 6 }, func(n *api.Node) { n.Next = 2 },
		func(n *api.Node) { n.Before = 1 }, func(n *api.Node) { n.After = 1 },
		func(n *api.Node) { n.Change.At = 1 }, func(n *api.Node) { n.Change.Old = "a" }, func(n *api.Node) { n.Change.New = "a" },
	} {
		l = append(l, with(bush(3), 0, set))
	}
	for k := 1; k < 6; k++ {
		for _, up := range []int{-1, k, k + 1, 6, math.MaxInt32 - 1} {
			l = append(l, with(bush(3), k, func(n *api.Node) { n.Up = up }))
		}
		for _, next := range []int{0, 6, math.MaxInt32 - 1} {
			l = append(l, with(bush(3), k, func(n *api.Node) { n.Next = next }))
		}
	}
	return l
}

// num and text are layer 1's words: four bytes, the lowest first; how many bytes there are, and they.
func num(n int) string {
	return string([]byte{byte(n), byte(n >> 8), byte(n >> 16), byte(n >> 24)})
}

func text(s string) string {
	return num(len(s)) + s
}

// spell is the chapter's words, also of a tree that may not be.
func spell(t api.Tree) string {
	var b strings.Builder
	b.WriteString(num(len(t.Nodes)))
	for _, n := range t.Nodes {
		b.WriteString(num(n.Up+1) + num(n.Next+1) + num(n.Before) + num(n.After) + num(n.Change.At) + text(n.Change.Old) + text(n.Change.New))
	}
	b.WriteString(num(t.Cur))
	return b.String()
}

// same holds trees against each other, field by field.
func same(a, b api.Tree) bool {
	return a.Cur == b.Cur && slices.Equal(a.Nodes, b.Nodes)
}

// zero tells whether a tree is the zero tree.
func zero(t api.Tree) bool {
	return len(t.Nodes) == 0 && t.Cur == 0
}

// written holds a tree's bytes, and how many they are, against others.
func written(t *testing.T, x api.Tree, want string) {
	t.Helper()
	if s := trunk.Bytes(x); s != want {
		t.Errorf("%d nodes at %d: %d bytes, not %d", len(x.Nodes), x.Cur, len(s), len(want))
	}
	if n := trunk.Size(x); n != len(want) {
		t.Errorf("%d nodes at %d: size %d, not %d", len(x.Nodes), x.Cur, n, len(want))
	}
}

// P12.1: bytes by hand.
func TestBytes(t *testing.T) {
	written(t, tree.New(), "\x01\x00\x00\x00"+strings.Repeat("\x00", 28)+"\x00\x00\x00\x00")
	x := api.Tree{Nodes: nodes{
		{Up: -1, Next: 1},
		{Up: 0, Next: 2, Before: 258, After: 3, Change: api.Change{At: 65536, Old: "ab", New: ""}},
		{Up: 1, Next: -1, Before: 4, After: math.MaxInt32, Change: api.Change{At: 5, Old: "", New: "\u20ac\n"}},
	}, Cur: 1}
	written(t, x, "\x03\x00\x00\x00"+
		"\x00\x00\x00\x00\x02\x00\x00\x00\x00\x00\x00\x00\x00\x00\x00\x00\x00\x00\x00\x00\x00\x00\x00\x00\x00\x00\x00\x00"+
		"\x01\x00\x00\x00\x03\x00\x00\x00\x02\x01\x00\x00\x03\x00\x00\x00\x00\x00\x01\x00\x02\x00\x00\x00ab\x00\x00\x00\x00"+
		"\x02\x00\x00\x00\x00\x00\x00\x00\x04\x00\x00\x00\xff\xff\xff\x7f\x05\x00\x00\x00\x00\x00\x00\x00\x04\x00\x00\x00\xe2\x82\xac\n"+
		"\x01\x00\x00\x00")
}

// The chapter's example: the root alone has 36 bytes.
func TestExample(t *testing.T) {
	if n := trunk.Size(tree.New()); n != 36 || len(trunk.Bytes(tree.New())) != 36 {
		t.Error(n)
	}
}

// P12.1: bytes of all kinds of trees, against the chapter's words.
func TestBytesOfAny(t *testing.T) {
	for _, x := range rights() {
		written(t, x, spell(x))
	}
	// Texts that Read would refuse, since they are too long, are written as others are.
	x := with(bush(2), 3, func(n *api.Node) { n.Change.New = strings.Repeat("n", 70000) })
	written(t, x, spell(x))
}

// P12.1: a tree that may not be has no bytes.
func TestBytesOfWrong(t *testing.T) {
	for _, x := range wrongs() {
		written(t, x, "")
	}
	for _, cur := range []int{-1, math.MinInt, math.MaxInt, 1 << 32} {
		written(t, bush(cur), "")
	}
	for k := range 6 {
		written(t, with(bush(3), k, func(n *api.Node) { n.Up = -2 }), "")
		written(t, with(bush(3), k, func(n *api.Node) { n.Next = -2 }), "")
		written(t, with(bush(3), k, func(n *api.Node) { n.Up = math.MaxInt }), "")
		written(t, with(bush(3), k, func(n *api.Node) { n.Next = math.MaxInt }), "")
		written(t, with(bush(3), k, func(n *api.Node) { n.Before = -1 }), "")
		written(t, with(bush(3), k, func(n *api.Node) { n.After = -1 }), "")
	}
}

// P12.1: a tree that may be, but in which a number is none of layer 1's, has no bytes.
func TestBytesOfNoNumber(t *testing.T) {
	for k := 1; k < 6; k++ {
		for _, p := range []int{1 << 31, 1<<31 + 1, 1<<32 + 5, 1 << 40, math.MaxInt} {
			for _, x := range []api.Tree{
				with(bush(3), k, func(n *api.Node) { n.Before = p }),
				with(bush(3), k, func(n *api.Node) { n.After = p }),
				with(bush(3), k, func(n *api.Node) { n.Change.At = p }),
			} {
				if !tree.Right(x) {
					t.Fatalf("%+v", x)
				}
				written(t, x, "")
			}
		}
		for _, p := range []int{-1, -2, -1 << 31, -1 << 32, math.MinInt} {
			written(t, with(bush(3), k, func(n *api.Node) { n.Change.At = p }), "")
		}
	}
}

// refused wants an error of Read, and what the reader has left then, and that its own error is the one that it should be.
func refused(t *testing.T, what string, r *code.Reader, want, own api.Errno, left int) {
	t.Helper()
	x, e := trunk.Read(r)
	if e != want || !zero(x) {
		t.Errorf("%s: %d nodes, error %d, not %d", what, len(x.Nodes), e, want)
	}
	if r.Left() != left || r.Err() != own {
		t.Errorf("%s: left %d, error %d; wanted %d, %d", what, r.Left(), r.Err(), left, own)
	}
}

// P12.2, P12.5: what was written is read, whatever stands ahead of it and behind it.
func TestReadBack(t *testing.T) {
	for _, x := range rights() {
		for _, rest := range []string{"", "r", strings.Repeat("\xff", 300)} {
			r := code.NewReader(num(7) + trunk.Bytes(x) + rest)
			r.Num()
			y, e := trunk.Read(r)
			if e != api.OK || !same(x, y) || r.Left() != len(rest) || r.Err() != api.OK {
				t.Errorf("%d nodes: %d, error %d, left %d", len(x.Nodes), len(y.Nodes), e, r.Left())
			}
		}
	}
}

// P12.2: trees one behind the other.
func TestReadMany(t *testing.T) {
	all := rights()
	s := ""
	for _, x := range all {
		s += trunk.Bytes(x)
	}
	r := code.NewReader(s)
	for i, x := range all {
		if y, e := trunk.Read(r); e != api.OK || !same(x, y) {
			t.Fatalf("%d: error %d", i, e)
		}
	}
	refused(t, "the end", r, api.ErrEnd, api.ErrEnd, 0)
}

// P12.2: of bytes that are too few all is read that there is.
func TestReadEnd(t *testing.T) {
	for _, x := range []api.Tree{tree.New(), bush(4), chain(5, 2)} {
		s := trunk.Bytes(x)
		for n := range len(s) {
			refused(t, "the first "+strconv.Itoa(n), code.NewReader(s[:n]), api.ErrEnd, api.ErrEnd, 0)
		}
	}
	// Very many nodes are not looked for where there are no bytes, nor is a tree of too many refused before its end.
	refused(t, "greatest number", code.NewReader(num(math.MaxInt32)), api.ErrEnd, api.ErrEnd, 0)
	refused(t, "greatest number and some", code.NewReader(num(math.MaxInt32)+trunk.Bytes(bush(3))), api.ErrRange, api.ErrRange, 0)
	s := spell(chain(1025, 0))
	refused(t, "too many, but for one byte", code.NewReader(s[:len(s)-1]), api.ErrEnd, api.ErrEnd, 0)
}

// P12.2: a reader that has an error, one that is nil, and those that NewReader did not give.
func TestReadOfSpent(t *testing.T) {
	refused(t, "nil", nil, api.ErrEnd, api.ErrEnd, 0)
	refused(t, "a zero one", &code.Reader{}, api.ErrEnd, api.ErrEnd, 0)
	whole := trunk.Bytes(bush(3))
	copied := *code.NewReader(whole)
	refused(t, "a copy", &copied, api.ErrEnd, api.ErrEnd, 0)
	r := code.NewReader(num(1<<31) + whole)
	r.Num()
	refused(t, "one with ErrRange", r, api.ErrRange, api.ErrRange, 0)
	r = code.NewReader("abc")
	r.Num()
	refused(t, "one with ErrEnd", r, api.ErrEnd, api.ErrEnd, 0)
}

// starts tells where in a tree's bytes each number begins, and which of them is how many bytes a text has.
func starts(t api.Tree) (all, texts []int) {
	at := 0
	next := func(n int) {
		all = append(all, at)
		at += n
	}
	next(4)
	for _, n := range t.Nodes {
		for range 5 {
			next(4)
		}
		for _, s := range []string{n.Change.Old, n.Change.New} {
			texts = append(texts, at)
			next(4 + len(s))
		}
	}
	next(4)
	return all, texts
}

// patched is bytes in which another number stands at at.
func patched(s string, at, n int) string {
	return s[:at] + num(n) + s[at+4:]
}

// P12.2: the reader's error comes at once: a number above MaxNum, a text that is too long; and ahead of ErrForm and of what comes later.
func TestReadRange(t *testing.T) {
	x := bush(3)
	s := trunk.Bytes(x)
	all, texts := starts(x)
	if all[len(all)-1] != len(s)-4 {
		t.Fatal(all, len(s))
	}
	for _, at := range all {
		for _, n := range []int{1 << 31, 1<<32 - 1} {
			refused(t, "at "+strconv.Itoa(at), code.NewReader(patched(s, at, n)+"rest"), api.ErrRange, api.ErrRange, 0)
			refused(t, "the last one at "+strconv.Itoa(at), code.NewReader(patched(s, at, n)[:at+4]), api.ErrRange, api.ErrRange, 0)
			// The root's Next is wrong, too, but that is looked at when all is read.
			refused(t, "ahead of ErrForm at "+strconv.Itoa(at), code.NewReader(patched(patched(s, 8, 5), at, n)), api.ErrRange, api.ErrRange, 0)
		}
	}
	for _, at := range texts {
		for _, n := range []int{4097, 70000, math.MaxInt32} {
			refused(t, "a text at "+strconv.Itoa(at), code.NewReader(patched(s, at, n)+strings.Repeat("z", 80000)), api.ErrRange, api.ErrRange, 0)
		}
		refused(t, "no text at "+strconv.Itoa(at), code.NewReader(patched(s, at, 4096)), api.ErrEnd, api.ErrEnd, 0)
	}
	// The first one of several.
	refused(t, "a text, then the end", code.NewReader(patched(s, texts[3], 4097)[:texts[3]+5]), api.ErrRange, api.ErrRange, 0)
	refused(t, "the end, where a text was", code.NewReader(patched(s, texts[3], 4097)[:texts[3]+3]), api.ErrEnd, api.ErrEnd, 0)
	// What was written with a text that is too long is not read.
	long := with(bush(3), 2, func(n *api.Node) { n.Change.Old = strings.Repeat("o", 4097) })
	refused(t, "a long text", code.NewReader(trunk.Bytes(long)), api.ErrRange, api.ErrRange, 0)
}

// P12.2: a tree that may not be is read to its end, and refused then.
func TestReadForm(t *testing.T) {
	for i, x := range wrongs() {
		what := "wrong " + strconv.Itoa(i)
		refused(t, what, code.NewReader(spell(x)), api.ErrForm, api.OK, 0)
		refused(t, what+" and more", code.NewReader(spell(x)+"rest"), api.ErrForm, api.OK, 4)
		// The reader goes on behind it.
		r := code.NewReader(spell(x) + trunk.Bytes(bush(2)))
		trunk.Read(r)
		if y, e := trunk.Read(r); e != api.OK || !same(y, bush(2)) {
			t.Errorf("behind %s: error %d", what, e)
		}
	}
}

// P12.2, P12.5: whatever bytes there are: what is read may be, and its bytes are those that were there; what the reader has no error of, but may not be, is ErrForm.
func TestReadAnything(t *testing.T) {
	r := rand.New(rand.NewSource(125))
	numbers := []int{0, 1, 2, 3, 4, 5, 6, 7, 255, 4096, 4097, math.MaxInt32, 1 << 31, 1<<32 - 1}
	counts := map[api.Errno]int{}
	for range 60000 {
		x := bush(r.Intn(6))
		if r.Intn(2) == 0 {
			x = chain(1+r.Intn(4), 0)
		}
		s := trunk.Bytes(x)
		all, _ := starts(x)
		for range 1 + r.Intn(2) {
			at := all[r.Intn(len(all))]
			s = patched(s, at, numbers[r.Intn(len(numbers))])
		}
		if r.Intn(5) == 0 {
			s = s[:r.Intn(len(s)+1)]
		}
		in := code.NewReader(s)
		y, e := trunk.Read(in)
		counts[e]++
		switch {
		case e == api.OK && (!tree.Right(y) || trunk.Bytes(y) != s[:len(s)-in.Left()]):
			t.Fatalf("%q: %+v", s, y)
		case e == api.ErrForm && (!zero(y) || in.Err() != api.OK):
			t.Fatalf("%q: %+v, error %d of the reader", s, y, in.Err())
		case e != api.OK && e != api.ErrForm && (!zero(y) || in.Err() != e || in.Left() != 0):
			t.Fatalf("%q: %+v, error %d, left %d", s, y, e, in.Left())
		}
	}
	for _, e := range []api.Errno{api.OK, api.ErrEnd, api.ErrForm, api.ErrRange} {
		if counts[e] < 1000 {
			t.Error(counts)
		}
	}
	if len(counts) != 4 {
		t.Error(counts)
	}
}

// P12.3: a tree of texts from each of its nodes.
func TestCheck(t *testing.T) {
	for cur := range 6 {
		x, texts := letters(cur)
		if e := trunk.Check(x, texts[cur]); e != api.OK {
			t.Errorf("at %d: error %d", cur, e)
		}
	}
	// All places of the texts ahead of a node and behind it are places of the cursor, the ends, too.
	x := with(made(1, 0), 1, func(n *api.Node) { n.Change = api.Change{At: 1, Old: "\u20ac", New: "\U0001f600"} })
	for _, before := range []int{0, 1, 4, 5} {
		for _, after := range []int{0, 1, 5, 6} {
			y := with(x, 1, func(n *api.Node) { n.Before, n.After = before, after })
			if e := trunk.Check(y, "a\U0001f600\n"); e != api.OK {
				t.Errorf("%d, %d: error %d", before, after, e)
			}
		}
	}
	for _, s := range []string{"", "a", "a\nb", "\u20ac", strings.Repeat("a", 4096), strings.Repeat("a", 4097)} {
		if e := trunk.Check(tree.New(), s); e != api.OK {
			t.Errorf("the root alone, %d bytes: error %d", len(s), e)
		}
	}
	full := chain(1024, 1000)
	for k := 1; k < 1024; k++ {
		full.Nodes[k] = api.Node{Up: k - 1, Next: full.Nodes[k].Next, Before: k - 1, After: k, Change: api.Change{At: k - 1, New: "z"}}
	}
	if e := trunk.Check(full, strings.Repeat("z", 1000)); e != api.OK {
		t.Errorf("1024 nodes: error %d", e)
	}
	full.Nodes[1023].After = 1024
	if e := trunk.Check(full, strings.Repeat("z", 1000)); e != api.ErrRange {
		t.Errorf("1024 nodes, the last one wrong: error %d", e)
	}
}

// P12.3: a tree that may not be is refused ahead of all else, and what Texts refuses next, ahead of places.
func TestCheckErrors(t *testing.T) {
	for i, x := range wrongs() {
		for _, s := range []string{"", "abc", "\xff", strings.Repeat("a", 4097)} {
			if e := trunk.Check(x, s); e != api.ErrArg {
				t.Errorf("wrong %d: error %d", i, e)
			}
		}
	}
	full := strings.Repeat("f", 4096)
	for cur := range 6 {
		for k := 1; k < 6; k++ {
			x, texts := letters(cur)
			// A place that is none is not asked for as long as there is no text.
			bad := with(x, 5, func(n *api.Node) { n.After = 1 })
			for _, c := range []api.Change{{At: -1}, {At: 9}, {Old: "q", New: "r"}, {New: "\xff"}} {
				if e := trunk.Check(with(bad, k, func(n *api.Node) { n.Change = c }), texts[cur]); e != api.ErrArg {
					t.Errorf("at %d, %d is %+v: error %d", cur, k, c, e)
				}
			}
			if e := trunk.Check(bad, texts[cur]); e != api.ErrRange {
				t.Errorf("at %d: error %d", cur, e)
			}
			if e := trunk.Check(bad, "q\xff"); cur > 0 && e != api.ErrArg {
				t.Errorf("at %d: error %d", cur, e)
			}
		}
		x, texts := letters(cur)
		if cur == 5 {
			continue
		}
		x = with(x, 5, func(n *api.Node) { n.Change.New, n.After = full+"f", 9999 })
		if e := trunk.Check(x, texts[cur]); e != api.ErrRoom {
			t.Errorf("at %d, no room: error %d", cur, e)
		}
	}
	// At the root alone any text is that at Cur; but of one that is not valid the cursor has no place.
	for _, s := range []string{"\xff", "a\x80", "\xe2\x82"} {
		if e := trunk.Check(tree.New(), s); e != api.ErrRange {
			t.Errorf("%q: error %d", s, e)
		}
	}
}

// P12.3: Before is a place of the text at the Up, After one of that at the node, of each node, wherever Cur is.
func TestCheckRange(t *testing.T) {
	for cur := range 6 {
		for k := 1; k < 6; k++ {
			x, texts := letters(cur)
			for _, p := range []int{0, 1, 2, 3, 4, 5, 6, 4096, math.MaxInt32, math.MaxInt} {
				up, at := texts[x.Nodes[k].Up], texts[k]
				for _, c := range []struct {
					x    api.Tree
					text string
				}{
					{with(x, k, func(n *api.Node) { n.Before = p }), up},
					{with(x, k, func(n *api.Node) { n.After = p }), at},
				} {
					want := api.ErrRange
					if p == len(c.text) || p < len(c.text) && utf8.RuneStart(c.text[p]) {
						want = api.OK
					}
					if e := trunk.Check(c.x, texts[cur]); e != want {
						t.Errorf("at %d, %d: %d of %q: error %d, not %d", cur, k, p, c.text, e, want)
					}
				}
			}
		}
	}
}

// P12.4: lines by hand, and the sign of Cur in each of them.
func TestDraw(t *testing.T) {
	if l := trunk.Draw(tree.New()); !slices.Equal(l, []string{"0 -1 -1 0 0 0 0 0 *"}) {
		t.Errorf("%q", l)
	}
	want := []string{
		"0 -1 5 0 0 0 0 0",
		"1 0 3 101 201 70001 2 6",
		"2 1 4 102 202 70002 4 12",
		"3 1 -1 103 203 70003 6 18",
		"4 2 -1 104 204 70004 8 24",
		"5 0 -1 105 205 70005 10 30",
	}
	for cur := range 6 {
		l := slices.Clone(want)
		l[cur] += " *"
		if got := trunk.Draw(bush(cur)); !slices.Equal(got, l) {
			t.Errorf("at %d: %q", cur, got)
		}
	}
}

// P12.4: a tree of all nodes there may be, and numbers of all kinds, also those that can't be written as bytes.
func TestDrawOfAny(t *testing.T) {
	l := trunk.Draw(chain(1024, 1023))
	if len(l) != 1024 || l[1000] != "1000 999 1001 0 0 0 0 0" || l[1023] != "1023 1022 -1 0 0 0 0 0 *" {
		t.Errorf("%d lines", len(l))
	}
	x := with(made(0, 0), 1, func(n *api.Node) {
		n.Before, n.After = math.MaxInt, 1<<40
		n.Change = api.Change{At: math.MinInt, Old: "\u20ac", New: strings.Repeat("n", 5000)}
	})
	l = trunk.Draw(x)
	if len(l) != 2 || l[0] != "0 -1 1 0 0 0 0 0 *" || l[1] != "1 0 -1 9223372036854775807 1099511627776 -9223372036854775808 3 5000" {
		t.Errorf("%q", l)
	}
	for i, x := range wrongs() {
		if l := trunk.Draw(x); len(l) != 0 {
			t.Errorf("wrong %d: %q", i, l)
		}
	}
}

// P12.5: a tree that grew by edits, was gone through anyhow, written and read after each of them, is the same, and of the same texts.
func TestThereAndBack(t *testing.T) {
	r := rand.New(rand.NewSource(5))
	runes := []string{"a", "b", "\n", "\u00e9", "\u20ac", "\U0001f600"}
	for range 100 {
		x, texts := tree.New(), []string{""}
		for range 40 {
			switch r.Intn(4) {
			case 0:
				x, _, _ = tree.Undo(x)
			case 1:
				x, _ = tree.To(x, r.Intn(len(x.Nodes)))
			default:
				s := ""
				for range r.Intn(9) {
					s += runes[r.Intn(len(runes))]
				}
				x, _ = tree.Add(x, change.Diff(texts[x.Cur], s), len(texts[x.Cur]), len(s))
				texts = append(texts, s)
			}
			written(t, x, spell(x))
			in := code.NewReader(trunk.Bytes(x))
			y, e := trunk.Read(in)
			if e != api.OK || !same(x, y) || in.Left() != 0 {
				t.Fatalf("%+v: %+v, error %d", x, y, e)
			}
			if e := trunk.Check(y, texts[y.Cur]); e != api.OK {
				t.Fatalf("%+v: error %d", y, e)
			}
			x = y
		}
	}
}

// What is handed in stays as it was, and so does what stands behind its end, which nothing hangs on.
func TestListsStay(t *testing.T) {
	for _, x := range append(rights(), wrongs()...) {
		n := len(x.Nodes)
		plain := trunk.Bytes(x)
		room := append(slices.Clone(x.Nodes), api.Node{Up: 0, Next: -1}, api.Node{Up: 78})
		was := slices.Clone(room)
		x.Nodes = room[:n]
		if trunk.Bytes(x) != plain || trunk.Size(x) != len(plain) {
			t.Errorf("%d nodes: %d bytes", n, trunk.Size(x))
		}
		trunk.Draw(x)
		trunk.Check(x, "")
		if !slices.Equal(room, was) {
			t.Errorf("%+v, not %+v", room, was)
		}
	}
}

// shared tells whether two texts lie in the same memory.
func shared(a, b string) bool {
	from, to := uintptr(unsafe.Pointer(unsafe.StringData(a))), uintptr(unsafe.Pointer(unsafe.StringData(b)))
	return from < to+uintptr(len(b)) && to < from+uintptr(len(a))
}

// What is read is new memory: its texts lie in none of the bytes, and two trees read of the same bytes share no list.
func TestReadIsNew(t *testing.T) {
	s := strings.Clone(trunk.Bytes(bush(3)))
	x, _ := trunk.Read(code.NewReader(s))
	y, _ := trunk.Read(code.NewReader(s))
	for k := range x.Nodes {
		a, b := x.Nodes[k].Change, y.Nodes[k].Change
		if shared(a.Old, s) || shared(a.New, s) || shared(a.Old, a.New) || shared(a.Old, b.Old) || shared(a.New, b.New) {
			t.Errorf("the texts of %d", k)
		}
	}
	for k := range x.Nodes[:cap(x.Nodes)] {
		x.Nodes[:cap(x.Nodes)][k] = api.Node{Up: 99}
	}
	if !same(y, bush(3)) {
		t.Errorf("%+v", y)
	}
	l, m := trunk.Draw(y), trunk.Draw(y)
	for i := range l {
		l[i] = "x"
	}
	if m[0] != "0 -1 5 0 0 0 0 0" || trunk.Draw(y)[0] != m[0] {
		t.Errorf("%q", m)
	}
}
