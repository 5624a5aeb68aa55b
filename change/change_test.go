package change_test

import (
	"math"
	"math/rand"
	"slices"
	"strings"
	"testing"
	"unicode/utf8"
	"unsafe"

	"calamus/api"
	"calamus/change"
)

// runes are some of one to four bytes, with neighbours that begin with the same bytes, and others that end with the same ones.
func runes() []string {
	return []string{"a", "b", "\n", "\u00e9", "\u00e8", "\u0169", "\u20ac", "\u20ad", "\u30ac", "\U0001f600", "\U0001f601", "\U0001f500", "\U0005f600"}
}

// texts are all of up to n of these runes.
func texts(n int, of ...string) []string {
	l := []string{""}
	for from := 0; n > 0; n-- {
		to := len(l)
		for _, s := range l[from:to] {
			for _, r := range of {
				l = append(l, s+r)
			}
		}
		from = to
	}
	return l
}

// wrong are bytes that are no valid texts.
func wrong() []string {
	return []string{"\xff", "\x80", "\xc3", "\xe2\x82", "\xf0\x9f\x98", "\xc0\x8a", "\xed\xa0\x80", "\xf4\x90\x80\x80", "a\xff", "\xffa", "ab\x80cd", "\u00e9\xa9", "\u20ac\xe2"}
}

// place tells whether a rune of a valid text begins at at, or it ends there, by the library.
func place(t string, at int) bool {
	return at == len(t) || at >= 0 && at < len(t) && utf8.RuneStart(t[at])
}

// fits is the chapter's words, by the library.
func fits(t string, c api.Change) bool {
	if !utf8.ValidString(t) || !utf8.ValidString(c.Old) || !utf8.ValidString(c.New) || !place(t, c.At) {
		return false
	}
	end := c.At + len(c.Old)
	return end <= len(t) && t[c.At:end] == c.Old
}

// P8.1: what fits, by hand.
func TestFits(t *testing.T) {
	for _, x := range []struct {
		t string
		c api.Change
	}{
		{"", api.Change{}},
		{"", api.Change{New: "a"}},
		{"abc", api.Change{}},
		{"abc", api.Change{Old: "a", New: "x"}},
		{"abc", api.Change{At: 1, Old: "bc"}},
		{"abc", api.Change{At: 3}},
		{"abc", api.Change{At: 3, New: "\u20ac"}},
		{"abc", api.Change{Old: "abc", New: "abc"}},
		{"abab", api.Change{At: 2, Old: "ab"}},
		{"a\u00e9\n\U0001f600", api.Change{At: 1, Old: "\u00e9\n"}},
		{"a\u00e9\n\U0001f600", api.Change{At: 4, Old: "\U0001f600", New: "\n"}},
		{"a\u00e9\n\U0001f600", api.Change{At: 8, New: "\x00"}},
		{strings.Repeat("a", 2*api.MaxText), api.Change{At: api.MaxText, Old: "a", New: "b"}},
	} {
		if !change.Fits(x.t, x.c) {
			t.Errorf("%.20q, %+v", x.t, x.c)
		}
	}
}

// unfit are texts and changes that do not fit them.
func unfit() map[string][]api.Change {
	m := map[string][]api.Change{
		"":    {{At: 1}, {At: -1}, {Old: "a"}, {Old: "\n"}},
		"abc": {{At: -1}, {At: 4}, {At: -1, Old: "a"}, {At: 3, Old: "c"}, {At: 4, Old: "a"}, {Old: "b"}, {At: 1, Old: "a"}, {At: 2, Old: "cd"}, {Old: "abcd"}, {Old: "A"}, {Old: "ab\n"}, {At: math.MinInt}, {At: math.MaxInt}, {At: math.MaxInt, Old: "a"}, {At: math.MinInt, Old: "a"}, {At: 1 << 32}, {At: 1<<32 + 1, Old: "b"}},
		// Within a rune, also where the bytes stand there.
		"a\u00e9\U0001f600": {{At: 2}, {At: 2, New: "x"}, {At: 2, Old: "\xa9"}, {At: 4}, {At: 5}, {At: 6, New: "x"}, {At: 6, Old: "\x80"}, {At: 8}, {At: 1, Old: "\xc3"}, {At: 1, Old: "\u00e9\xf0"}, {At: 1, Old: "\u00e8"}, {At: 3, Old: "\U0001f601"}},
	}
	for _, s := range wrong() {
		m[s] = append(m[s], api.Change{}, api.Change{New: "x"}, api.Change{At: len(s)}, api.Change{At: 1}, api.Change{Old: s}, api.Change{Old: s, New: "ok"})
		m["ab"] = append(m["ab"], api.Change{New: s}, api.Change{At: 1, Old: "b", New: s}, api.Change{At: 2, New: "x" + s}, api.Change{Old: s}, api.Change{Old: "ab" + s})
	}
	return m
}

// P8.1: what does not fit: neither is it told to, nor made.
func TestDoesNotFit(t *testing.T) {
	for s, l := range unfit() {
		for _, c := range l {
			if change.Fits(s, c) {
				t.Errorf("Fits(%q, %+v)", s, c)
			}
			if text, e := change.Do(s, c); text != "" || e != api.ErrArg {
				t.Errorf("Do(%q, %+v): %q, error %d", s, c, text, e)
			}
		}
	}
}

// P8.1: all changes of short texts, with Olds from within runes to within runes, and Ats beside the text, against the chapter's words.
func TestFitsEverywhere(t *testing.T) {
	for _, s := range append(texts(2, runes()...), wrong()...) {
		olds := map[string]bool{"x": true, "\xff": true}
		for from := range len(s) + 1 {
			for to := from; to <= len(s); to++ {
				olds[s[from:to]] = true
			}
		}
		for old := range olds {
			for at := -2; at <= len(s)+2; at++ {
				for _, text := range []string{"", "x", "\u20ac", "\xa9"} {
					c := api.Change{At: at, Old: old, New: text}
					want := fits(s, c)
					if change.Fits(s, c) != want {
						t.Fatalf("Fits(%q, %+v): %v", s, c, !want)
					}
					behind, e := change.Do(s, c)
					if want && (e != api.OK || behind != s[:at]+text+s[at+len(old):]) || !want && (e != api.ErrArg || behind != "") {
						t.Fatalf("Do(%q, %+v): %q, error %d", s, c, behind, e)
					}
				}
			}
		}
	}
}

// P8.1: changes made one behind the other, each of the text that the one ahead of it left, and none at all.
func TestDo(t *testing.T) {
	for _, x := range []struct {
		t    string
		l    []api.Change
		want string
		e    api.Errno
	}{
		{"", nil, "", api.OK},
		{"abc", nil, "abc", api.OK},
		{"abc", []api.Change{}, "abc", api.OK},
		// Where no change is made, none has an error.
		{"a\xff", nil, "a\xff", api.OK},
		{"abc", []api.Change{{}, {At: 3}, {At: 1, Old: "b", New: "b"}}, "abc", api.OK},
		{"", []api.Change{{New: "a\u00e9"}}, "a\u00e9", api.OK},
		{"abc", []api.Change{{Old: "abc"}}, "", api.OK},
		{"abc", []api.Change{{New: "x"}}, "xabc", api.OK},
		{"abc", []api.Change{{At: 3, New: "x"}}, "abcx", api.OK},
		{"abc", []api.Change{{Old: "a"}}, "bc", api.OK},
		{"abc", []api.Change{{At: 2, Old: "c"}}, "ab", api.OK},
		{"abc", []api.Change{{At: 1, Old: "b", New: "\n\u20ac"}}, "a\n\u20acc", api.OK},
		// The second one stands where the first one put it.
		{"abc", []api.Change{{At: 1, Old: "b", New: "xyz"}, {At: 4, Old: "c", New: "!"}, {At: 2, Old: "yz!"}}, "ax", api.OK},
		{"abc", []api.Change{{Old: "abc"}, {New: "d"}, {At: 1, New: "e"}}, "de", api.OK},
		{"\u00e9", []api.Change{{Old: "\u00e9", New: "ab"}, {At: 1, New: "-"}}, "a-b", api.OK},
		// Each fits the first text, but not what the other one leaves.
		{"abc", []api.Change{{Old: "a"}, {At: 3}}, "", api.ErrArg},
		{"abc", []api.Change{{Old: "a"}, {Old: "a"}}, "", api.ErrArg},
		{"ab", []api.Change{{Old: "a", New: "\u00e9"}, {At: 1}}, "", api.ErrArg},
		{"abc", []api.Change{{At: 4}, {}}, "", api.ErrArg},
		{"abc", []api.Change{{}, {}, {New: "\xff"}}, "", api.ErrArg},
	} {
		if s, e := change.Do(x.t, x.l...); s != x.want || e != x.e {
			t.Errorf("%q, %+v: %q, error %d", x.t, x.l, s, e)
		}
	}
}

// P8.1: how much room there is, behind each change, and which error comes first.
func TestDoRoom(t *testing.T) {
	full := strings.Repeat("a", api.MaxText)
	over := full + "a"
	wide := strings.Repeat("\u00e9", api.MaxText/2)
	put, out, bad := api.Change{New: "b"}, api.Change{Old: "a"}, api.Change{Old: "?"}
	for name, x := range map[string]struct {
		t    string
		l    []api.Change
		want string
		e    api.Errno
	}{
		"all of it put in":      {"", []api.Change{{New: full}}, full, api.OK},
		"too much put in":       {"", []api.Change{{New: over}}, "", api.ErrRoom},
		"up to the limit":       {full[1:], []api.Change{put}, "b" + full[1:], api.OK},
		"one above it":          {full, []api.Change{put}, "", api.ErrRoom},
		"one above it, behind":  {full, []api.Change{{At: api.MaxText, New: "b"}}, "", api.ErrRoom},
		"as much in as out":     {full, []api.Change{{At: api.MaxText - 1, Old: "a", New: "b"}}, full[1:] + "b", api.OK},
		"bytes, not runes":      {wide, []api.Change{put}, "", api.ErrRoom},
		"a rune for a rune":     {wide, []api.Change{{Old: "\u00e9", New: "\u00e8"}}, "\u00e8" + wide[2:], api.OK},
		"a longer rune for it":  {wide, []api.Change{{Old: "\u00e9", New: "\u20ac"}}, "", api.ErrRoom},
		"first out, then in":    {full, []api.Change{out, put}, "b" + full[1:], api.OK},
		"first in, then out":    {full, []api.Change{put, out}, "", api.ErrRoom},
		"in and out, not room":  {full, []api.Change{put, {Old: "b"}}, "", api.ErrRoom},
		"too long, then fewer":  {over, []api.Change{out}, full, api.OK},
		"too long, none made":   {over, nil, over, api.OK},
		"too long, zero":        {over, []api.Change{{}}, "", api.ErrRoom},
		"too long, still":       {over + "a", []api.Change{out, out}, "", api.ErrRoom},
		"no room, then unfit":   {full, []api.Change{put, bad}, "", api.ErrRoom},
		"unfit, then no room":   {full, []api.Change{bad, put}, "", api.ErrArg},
		"unfit, and no room":    {full, []api.Change{{Old: "?", New: full}}, "", api.ErrArg},
		"not valid, no room":    {full, []api.Change{{New: "\xff"}}, "", api.ErrArg},
		"not valid, and longer": {over + "\xff", []api.Change{out}, "", api.ErrArg},
	} {
		if s, e := change.Do(x.t, x.l...); s != x.want || e != x.e {
			t.Errorf("%s: %d bytes, error %d", name, len(s), e)
		}
	}
}

// P8.2: Old and New change their places, At stays, whatever they are.
func TestTurn(t *testing.T) {
	for _, x := range [][2]api.Change{
		{},
		{{At: 1, Old: "bc", New: "xyz"}, {At: 1, Old: "xyz", New: "bc"}},
		{{At: 5, Old: "a"}, {At: 5, New: "a"}},
		{{New: "\u00e9"}, {Old: "\u00e9"}},
		{{At: -3, Old: "same", New: "same"}, {At: -3, Old: "same", New: "same"}},
		{{At: math.MaxInt, Old: "\xff", New: "\x80a"}, {At: math.MaxInt, Old: "\x80a", New: "\xff"}},
		{{At: math.MinInt}, {At: math.MinInt}},
	} {
		if c := change.Turn(x[0]); c != x[1] {
			t.Errorf("%+v: %+v", x[0], c)
		}
		if c := change.Turn(change.Turn(x[0])); c != x[0] {
			t.Errorf("%+v, turned twice: %+v", x[0], c)
		}
	}
}

// P8.2: what a change did the turned one undoes, and of several made one behind the other the turned ones from the last to the first.
func TestTurnUndoes(t *testing.T) {
	r := rand.New(rand.NewSource(8))
	for range 3000 {
		s := some(r, 12)
		l := []api.Change{}
		behind := s
		for range r.Intn(5) {
			c := within(r, behind)
			text, e := change.Do(behind, c)
			if e != api.OK {
				t.Fatalf("%q, %+v: error %d", behind, c, e)
			}
			if back, e := change.Do(text, change.Turn(c)); back != behind || e != api.OK {
				t.Fatalf("%q, %+v there and back: %q, error %d", behind, c, back, e)
			}
			behind, l = text, append(l, c)
		}
		if text, e := change.Do(s, l...); text != behind || e != api.OK {
			t.Fatalf("%q, %+v: %q, error %d", s, l, text, e)
		}
		for _, c := range slices.Backward(l) {
			l = append(l, change.Turn(c))
		}
		if text, e := change.Do(s, l...); text != s || e != api.OK {
			t.Fatalf("%q, %+v: %q, error %d", s, l, text, e)
		}
	}
}

// some is a text of up to n runes.
func some(r *rand.Rand, n int) string {
	s := ""
	for range r.Intn(n + 1) {
		s += runes()[r.Intn(len(runes()))]
	}
	return s
}

// within is a change that fits a text.
func within(r *rand.Rand, s string) api.Change {
	at, to := r.Intn(len(s)+1), r.Intn(len(s)+1)
	for !place(s, at) {
		at--
	}
	for !place(s, to) {
		to--
	}
	at, to = min(at, to), max(at, to)
	return api.Change{At: at, Old: s[at:to], New: some(r, 4)}
}

// P8.3: differences by hand.
func TestDiff(t *testing.T) {
	for _, x := range []struct {
		a, b string
		c    api.Change
	}{
		{"abc", "axxc", api.Change{At: 1, Old: "b", New: "xx"}},
		{"", "", api.Change{}},
		{"abc", "abc", api.Change{}},
		{"\u00e9\n\u20ac", "\u00e9\n\u20ac", api.Change{}},
		{"", "abc", api.Change{New: "abc"}},
		{"abc", "", api.Change{Old: "abc"}},
		{"abc", "xyz", api.Change{Old: "abc", New: "xyz"}},
		{"abc", "xabc", api.Change{New: "x"}},
		{"abc", "abcx", api.Change{At: 3, New: "x"}},
		{"abc", "bc", api.Change{Old: "a"}},
		{"abc", "ab", api.Change{At: 2, Old: "c"}},
		{"abc", "ac", api.Change{At: 1, Old: "b"}},
		{"one\n\ntwo", "one\ntwo", api.Change{At: 4, Old: "\n"}},
		{"abcde", "axcye", api.Change{At: 1, Old: "bcd", New: "xcy"}},
		// The ends overlap: what is ahead goes ahead.
		{"aa", "aaa", api.Change{At: 2, New: "a"}},
		{"aaa", "aa", api.Change{At: 2, Old: "a"}},
		{"a", "aaa", api.Change{At: 1, New: "aa"}},
		{"abab", "ababab", api.Change{At: 4, New: "ab"}},
		{"ababab", "abab", api.Change{At: 4, Old: "ab"}},
		{"aba", "ababa", api.Change{At: 3, New: "ba"}},
		{"xabay", "xababay", api.Change{At: 4, New: "ba"}},
		{"xababay", "xabay", api.Change{At: 4, Old: "ba"}},
		{"abcabx", "abcabcabx", api.Change{At: 5, New: "cab"}},
		{"\u00e9", "\u00e9\u00e9", api.Change{At: 2, New: "\u00e9"}},
		// The same bytes at a rune's beginning, at its end, at both.
		{"\u00e9", "\u00e8", api.Change{Old: "\u00e9", New: "\u00e8"}},
		{"\u00e9", "\u0169", api.Change{Old: "\u00e9", New: "\u0169"}},
		{"x\u20acy", "x\u20ady", api.Change{At: 1, Old: "\u20ac", New: "\u20ad"}},
		{"x\u20acy", "x\u30acy", api.Change{At: 1, Old: "\u20ac", New: "\u30ac"}},
		{"x\u20acy", "x\u22acy", api.Change{At: 1, Old: "\u20ac", New: "\u22ac"}},
		{"\u00e9\U0001f600\u00e9", "\u00e9\U0001f500\u00e9", api.Change{At: 2, Old: "\U0001f600", New: "\U0001f500"}},
		{"\u00e9\U0001f600\u00e9", "\u00e9\U0005f600\u00e9", api.Change{At: 2, Old: "\U0001f600", New: "\U0005f600"}},
		// A rune ends with the bytes with which a rune of another length ends.
		{"\u00e9", "\u0a29", api.Change{Old: "\u00e9", New: "\u0a29"}},
		{"\u00e9x", "\U0001f629x", api.Change{Old: "\u00e9", New: "\U0001f629"}},
		// The same bytes go on into the next rune.
		{"\u00e9\u00e9", "\u00e9\u00e8", api.Change{At: 2, Old: "\u00e9", New: "\u00e8"}},
		{"\u00e9", "\u00e9\u00e8", api.Change{At: 2, New: "\u00e8"}},
		{"\u00e8", "\u00e9\u00e8", api.Change{New: "\u00e9"}},
		{"\u00e9\u00e8", "\u00e8\u00e8", api.Change{Old: "\u00e9", New: "\u00e8"}},
		{"\u00e9\u0169\u00e9", "\u00e9\u00e9", api.Change{At: 2, Old: "\u0169"}},
	} {
		if c := change.Diff(x.a, x.b); c != x.c {
			t.Errorf("%q, %q: %+v", x.a, x.b, c)
		}
	}
}

// P8.3: of what is not valid there is no difference, be it the first, the second, or both, also where they are the same.
func TestDiffOfWhatIsNotValid(t *testing.T) {
	for _, s := range wrong() {
		for _, x := range append(wrong(), "", "a", "ab", "\u20ac", s) {
			if a, b := change.Diff(s, x), change.Diff(x, s); a != (api.Change{}) || b != (api.Change{}) {
				t.Errorf("%q, %q: %+v, %+v", s, x, a, b)
			}
		}
	}
}

// difference is the chapter's words: each place and each end is looked at, and the greatest and the longest taken.
func difference(a, b string) api.Change {
	if a == b {
		return api.Change{}
	}
	at := 0
	for p := range min(len(a), len(b)) + 1 {
		if a[:p] == b[:p] && place(a, p) && place(b, p) {
			at = p
		}
	}
	a, b = a[at:], b[at:]
	n := 0
	for k := range min(len(a), len(b)) + 1 {
		if end := a[len(a)-k:]; end == b[len(b)-k:] && utf8.ValidString(end) {
			n = k
		}
	}
	return api.Change{At: at, Old: a[:len(a)-n], New: b[:len(b)-n]}
}

// shortest tells how many bytes a change that makes b of a has at least: all that do it are tried.
func shortest(a, b string) int {
	least := len(a) + len(b)
	for at := 0; at <= len(a) && strings.HasPrefix(b, a[:at]); at++ {
		for to := at; to <= len(a); to++ {
			end := len(b) - (len(a) - to)
			if end < at || b[end:] != a[to:] {
				continue
			}
			c := api.Change{At: at, Old: a[at:to], New: b[at:end]}
			if fits(a, c) {
				least = min(least, len(c.Old)+len(c.New))
			}
		}
	}
	return least
}

// P8.3, P8.5: a difference is what the chapter's words tell, fits the first text, makes the second, and no shorter change does.
func TestDiffOfAll(t *testing.T) {
	l := append(texts(2, runes()...), texts(4, "a", "b")...)
	l = append(l, texts(3, "a", "\u00e9", "\u00e8", "\u0169")...)
	for _, a := range l {
		for _, b := range l {
			hold(t, a, b)
		}
	}
}

// P8.3, P8.5: longer texts likewise, of which each is the other one with some changes made.
func TestDiffOfLonger(t *testing.T) {
	r := rand.New(rand.NewSource(85))
	for range 3000 {
		a := some(r, 20)
		b := a
		for range r.Intn(3) {
			b, _ = change.Do(b, within(r, b))
		}
		hold(t, a, b)
	}
}

// hold holds a difference against what is promised of it.
func hold(t *testing.T, a, b string) {
	t.Helper()
	c := change.Diff(a, b)
	if c != difference(a, b) {
		t.Fatalf("%q, %q: %+v, not %+v", a, b, c, difference(a, b))
	}
	if s, e := change.Do(a, c); !change.Fits(a, c) || s != b || e != api.OK {
		t.Fatalf("%q, %q: %+v makes %q, error %d", a, b, c, s, e)
	}
	if n := shortest(a, b); len(c.Old)+len(c.New) != n {
		t.Fatalf("%q, %q: %+v, but %d bytes would do", a, b, c, n)
	}
}

// P8.3: texts of any length, beyond MaxText, too.
func TestDiffOfLong(t *testing.T) {
	long := strings.Repeat("\u20ac", 100000)
	for _, x := range []struct {
		a, b string
		c    api.Change
	}{
		{long, long, api.Change{}},
		{long + long, long + "x" + long, api.Change{At: len(long), New: "x"}},
		{long + "\u00e9" + long, long + "\u0169" + long, api.Change{At: len(long), Old: "\u00e9", New: "\u0169"}},
		{long, long + "\u20ac", api.Change{At: len(long), New: "\u20ac"}},
		{long, "", api.Change{Old: long}},
	} {
		if c := change.Diff(x.a, x.b); c != x.c {
			t.Errorf("%d and %d bytes: At %d, %d and %d bytes", len(x.a), len(x.b), c.At, len(c.Old), len(c.New))
		}
	}
}

// P8.4: where places go, one by one: ahead of At, at At, within Old, at Old's end, behind it.
func TestShift(t *testing.T) {
	for _, x := range []struct {
		c    api.Change
		from int
		to   []int
	}{
		{api.Change{}, -2, []int{-2, -1, 0, 1, 2}},
		{api.Change{At: 1, Old: "bc", New: "xyz"}, -1, []int{-1, 0, 1, 1, 4, 5, 6}},
		{api.Change{At: 1, Old: "xyz", New: "bc"}, -1, []int{-1, 0, 1, 1, 1, 3, 4}},
		{api.Change{At: 2, Old: "ab", New: "cd"}, 0, []int{0, 1, 2, 2, 4, 5}},
		{api.Change{At: 2, Old: "ab", New: "ab"}, 0, []int{0, 1, 2, 2, 4, 5}},
		// Nothing is within an Old without bytes: what is at At goes on.
		{api.Change{At: 2, New: "abc"}, 0, []int{0, 1, 5, 6, 7}},
		{api.Change{New: "a"}, -2, []int{-2, -1, 1, 2}},
		{api.Change{At: 2}, 0, []int{0, 1, 2, 3, 4}},
		{api.Change{At: 2, Old: "abc"}, 0, []int{0, 1, 2, 2, 2, 2, 3}},
		{api.Change{Old: "a"}, -2, []int{-2, -1, 0, 0, 1}},
		// Bytes are counted, not runes; and no text is asked.
		{api.Change{At: 1, Old: "\u00e9", New: "\U0001f600"}, 0, []int{0, 1, 1, 5, 6}},
		{api.Change{At: 1, Old: "\xff", New: "\x80\x80"}, 0, []int{0, 1, 3, 4}},
		{api.Change{At: -3, Old: "ab", New: "c"}, -5, []int{-5, -4, -3, -3, -2, -1, 0}},
		{api.Change{At: 1 << 40, Old: "ab"}, 1<<40 - 1, []int{1<<40 - 1, 1 << 40, 1 << 40}},
		{api.Change{At: -1 << 40, New: "ab"}, -1 << 40, []int{-1<<40 + 2, -1<<40 + 3}},
		{api.Change{At: -1 << 40, Old: "ab"}, 1<<40 - 1, []int{1<<40 - 3, 1<<40 - 2}},
	} {
		for i, want := range x.to {
			if p := change.Shift(x.from+i, x.c); p != want {
				t.Errorf("%d, %+v: %d, not %d", x.from+i, x.c, p, want)
			}
		}
	}
}

// P8.4: by changes one behind the other a place goes from where the one ahead left it; by none it stays.
func TestShiftByMany(t *testing.T) {
	in, out := api.Change{At: 3, New: "ab"}, api.Change{Old: "xy"}
	for _, x := range []struct {
		p    int
		l    []api.Change
		want int
	}{
		{5, nil, 5}, {0, nil, 0}, {-1, nil, -1}, {5, []api.Change{}, 5},
		{3, []api.Change{in, out}, 3}, {2, []api.Change{in, out}, 0}, {1, []api.Change{in, out}, 0}, {4, []api.Change{in, out}, 4},
		// In the other order it is ahead of what is put in.
		{4, []api.Change{out, in}, 2}, {5, []api.Change{out, in}, 5}, {1, []api.Change{out, in}, 0},
		{1, []api.Change{out, {New: "abc"}, {At: 2, Old: "c", New: "de"}}, 4},
		{7, []api.Change{out, out, out}, 1}, {7, []api.Change{out, out, out, out}, 0},
		{2, []api.Change{out, {At: -4, Old: "xy"}}, -2}, {0, []api.Change{{New: "a"}, {New: "a"}, {New: "a"}}, 3},
	} {
		if p := change.Shift(x.p, x.l...); p != x.want {
			t.Errorf("%d, %+v: %d, not %d", x.p, x.l, p, x.want)
		}
	}
}

// P8.4, P8.5: by changes that fit a place stays one, what is behind it stays behind it, and the turned change leads back what is not within Old.
func TestShiftThereAndBack(t *testing.T) {
	r := rand.New(rand.NewSource(84))
	for range 5000 {
		s := some(r, 10)
		c := within(r, s)
		behind, _ := change.Do(s, c)
		end := c.At + len(c.Old)
		for p := -3; p <= len(s)+3; p++ {
			to := change.Shift(p, c)
			if place(s, p) && !place(behind, to) {
				t.Fatalf("%q, %+v: from %d to %d, no place of %q", s, c, p, to, behind)
			}
			if back := change.Shift(to, change.Turn(c)); (p < c.At || p >= end) && back != p {
				t.Fatalf("%q, %+v: from %d to %d and back to %d", s, c, p, to, back)
			}
			if both := change.Shift(p, c, change.Turn(c)); both != change.Shift(to, change.Turn(c)) {
				t.Fatalf("%q, %+v: %d at once", s, c, both)
			}
			if p >= end && p <= len(s) && behind[to:] != s[p:] || p >= 0 && p < c.At && behind[:to] != s[:p] {
				t.Fatalf("%q, %+v: from %d to %d of %q", s, c, p, to, behind)
			}
		}
	}
}

// shared tells whether two texts lie in the same memory.
func shared(a, b string) bool {
	from, to := uintptr(unsafe.Pointer(unsafe.StringData(a))), uintptr(unsafe.Pointer(unsafe.StringData(b)))
	return from < to+uintptr(len(b)) && to < from+uintptr(len(a))
}

// apart complains of answers that lie where an argument or another one of them does.
func apart(t *testing.T, what any, given []string, answers ...string) {
	t.Helper()
	for i, s := range answers {
		for _, x := range slices.Concat(given, answers[:i]) {
			if shared(s, x) {
				t.Errorf("%v: %q", what, s)
			}
		}
	}
}

// An answer is new memory, also where it is an argument as it came, and where the same text is handed in twice.
func TestAnswersAreNew(t *testing.T) {
	s := strings.Clone("abc")
	for _, c := range []api.Change{{}, {At: 1}, {At: 3}, {New: s}, {At: 3, New: s}, {Old: s}, {Old: s, New: s}, {At: 1, Old: s[1:2]}, {Old: s[:1]}, {At: 2, Old: s[2:]}, {At: 1, Old: s[1:], New: s}} {
		text, e := change.Do(s, c)
		turned := change.Turn(c)
		if e != api.OK || turned.Old != c.New || turned.New != c.Old {
			t.Errorf("%+v: error %d, turned %+v", c, e, turned)
		}
		apart(t, c, []string{s, c.Old, c.New}, text, turned.Old, turned.New)
	}
	text, _ := change.Do(s)
	both, _ := change.Do("", api.Change{New: s}, api.Change{Old: s}, api.Change{New: s})
	apart(t, "no change, and all put in", []string{s}, text, both)
	long := s + s
	for _, x := range [][2]string{{s, ""}, {"", s}, {s, s[1:]}, {s[1:], s}, {s, s[:2]}, {s[:2], s}, {s, s[1:2]}, {long, s}, {s, long}, {s[:2], s[1:]}} {
		c := change.Diff(x[0], x[1])
		if c == (api.Change{}) {
			t.Errorf("%q: no difference", x)
		}
		apart(t, x, x[:], c.Old, c.New)
	}
}

// A list that is handed in is not changed, nor what stands behind its end.
func TestListStays(t *testing.T) {
	all := []api.Change{{At: 1, Old: "b", New: "x"}, {Old: "ax"}, {At: 9, Old: "behind"}, {At: -1, New: "\xff"}}
	l := append([]api.Change{}, all...)
	change.Do("abc", l[:2]...)
	change.Do("abc", l[:3]...)
	change.Do("abc", l...)
	change.Shift(1, l[:2]...)
	change.Shift(9, l...)
	for i, c := range l {
		if c != all[i] {
			t.Errorf("%d: %+v", i, c)
		}
	}
}

// Whatever is handed in, each call ends and none panics.
func TestAnything(t *testing.T) {
	parts := append(wrong(), "", "a", "ab", "\u00e9", "a\u00e9", strings.Repeat("b", api.MaxText+1))
	for _, s := range parts {
		for _, old := range parts {
			for _, at := range []int{math.MinInt, math.MinInt + 1, -1 << 40, -1, 0, 1, 2, api.MaxText, 1 << 40, math.MaxInt - 1, math.MaxInt} {
				c := api.Change{At: at, Old: old, New: s}
				if change.Fits(s, c) != fits(s, c) && at > math.MinInt/2 && at < math.MaxInt/2 {
					t.Errorf("Fits(%.20q, At %d, Old %.20q)", s, at, old)
				}
				change.Do(s, c, c, change.Turn(c))
				change.Shift(at, c, change.Turn(c))
				change.Shift(0, c)
				change.Shift(math.MaxInt, c)
				change.Shift(math.MinInt, c)
			}
			change.Diff(s, old)
		}
	}
}
