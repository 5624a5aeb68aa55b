package entry_test

import (
	"math"
	"math/rand"
	"regexp"
	"slices"
	"strings"
	"testing"
	"unicode/utf8"
	"unsafe"

	"calamus/api"
	"calamus/entry"
)

// texts are valid ones: all of up to some runes of each class, of longer runes with them, and some by hand.
func texts() []string {
	l := made([]string{"a", "+", " ", "\n"}, 5)
	l = append(l, made([]string{"_", "\u00e9", "\t", "\n", "\U0001f600", "("}, 3)...)
	return append(l, byHand()...)
}

// byHand are texts as they are written.
func byHand() []string {
	return []string{
		"ab  cd ", "ab+ \u00e9f\n  x", "a\u00e9_1\u20ac..;\t \t(x)\n\n \n\t", "one  two\n\tThree+-4\n\n\n", "\n\n\n", "   ", "\t\n\t\n",
		// What ends no line of layer 4, and is no blank, though it is elsewhere.
		"a\r\nb\r\n", "a\rb\vc\n\fd\u0085e\n\u2028f\n\u00a0g", "a\x00\n\x7fb", "a\u3000b\u00a0 \u00a0",
		// Runes with a byte that has the low bits of a line feed, a blank, a tab or a sign.
		"\u010a\n\u0a0a\u8a8a\n\u0120\u0109", "a\u012b+\u012b +", "\ufffd\n\ufeff", "\ufffd\ufffd \ufffd",
	}
}

// made are all texts of up to n of these runes.
func made(runes []string, n int) []string {
	l := []string{""}
	for from := 0; n > 0; n-- {
		to := len(l)
		for _, s := range l[from:to] {
			for _, r := range runes {
				l = append(l, s+r)
			}
		}
		from = to
	}
	return l
}

// typed are texts that are typed: short ones, and runes of all lengths.
func typed() []string {
	return append(made([]string{"x", " ", "\n"}, 2), "\t", "xyz", "x\ny\n", "\u00e9", "x\u20ac", "\u20ac\n", "\U0001f600\u00e9", "\x00\x7f\r")
}

// wrong are bytes that are no valid texts, with lines ahead of what is wrong and behind it.
func wrong() []string {
	l := []string{
		"\xff", "\x80", "\xc3", "\xc3a", "\xe2\x82", "\xe2\x82\n", "\xf0\x9f\x98", "\xc0\x8a", "\xe0\x80\x8a", "\xed\xa0\x80", "\xf4\x90\x80\x80", "\u00e9\x80",
	}
	for _, s := range l {
		l = append(l, "ab\n"+s, s+"\nab", "a\n"+s+"\nb", "\n\n"+s, s+"\n\n")
	}
	return l
}

// far are numbers beyond all texts, from both ends of what a number can be.
func far() []int {
	return []int{math.MinInt, math.MinInt + 1, math.MinInt32, math.MaxInt32, 1 << 32, 1 << 40, 1 << 60, 1 << 61, 1 << 62, 1<<62 + 1, math.MaxInt/2 + 1, math.MaxInt/3 + 1, math.MaxInt - 1, math.MaxInt}
}

// places are where a text's runes begin, and its end.
func places(t string) []int {
	l := []int{}
	for p := range t {
		l = append(l, p)
	}
	return append(l, len(t))
}

// place tells whether p is a place of a text, and that valid.
func place(t string, p int) bool { return utf8.ValidString(t) && slices.Contains(places(t), p) }

// answer is what is told.
type answer struct {
	text string
	at   int
	e    api.Errno
}

// told is what a function tells.
func told(s string, p int, e api.Errno) answer { return answer{s, p, e} }

// wantType is what the chapter says: rune by rune.
func wantType(t string, p int, s string) answer {
	if !place(t, p) || !utf8.ValidString(s) {
		return answer{e: api.ErrArg}
	}
	l := []byte(t)
	for _, r := range s {
		l = slices.Insert(l, p, []byte(string(r))...)
		p += utf8.RuneLen(r)
	}
	if len(l) > 4096 {
		return answer{e: api.ErrRoom}
	}
	return answer{string(l), p, api.OK}
}

// cut is one of the functions that take out, and what goes with it of what stands ahead of a place, as the chapter says.
type cut struct {
	name string
	do   func(t string, p, from int) (string, int, api.Errno)
	goes *regexp.Regexp
}

// cuts are all of them.
var cuts = []cut{
	{"Back", entry.Back, regexp.MustCompile(`(?s:.)\z`)},
	{"Chop", entry.Chop, regexp.MustCompile(`(?:\n|(?:(?:[A-Za-z0-9_]|[^\x00-\x7f])+|[\x00-\x08\x0b-\x1f!-/:-@\[-^\x60{-\x7f]+)?[ \t]*)\z`)},
	{"Wipe", entry.Wipe, regexp.MustCompile(`(?:\n|[^\n]*)\z`)},
}

// want is what the chapter says of what takes out: of what stands from from to p the end goes.
func (c cut) want(t string, p, from int) answer {
	switch {
	case !place(t, p) || !place(t, from):
		return answer{e: api.ErrArg}
	case p <= from:
		return answer{e: api.ErrMove}
	}
	at := from + c.goes.FindStringIndex(t[from:p])[0]
	return answer{t[:at] + t[p:], at, api.OK}
}

// wantAgain is what the chapter says: once, and as often more as is wanted.
func wantAgain(t string, p, from, n int) answer {
	if !place(t, p) || !place(t, from) || from > p {
		return answer{e: api.ErrArg}
	}
	one, n := t[from:p], max(n, 1)
	// What is far too long is not put together.
	if one != "" && (n > 5000 || n*len(one) > 9999) {
		return answer{e: api.ErrRoom}
	}
	s := t[:from] + strings.Repeat(one, n) + t[p:]
	if len(s) > 4096 {
		return answer{e: api.ErrRoom}
	}
	return answer{s, from + n*len(one), api.OK}
}

// wantLeave is what the chapter says: the rune ahead, within the line.
func wantLeave(t string, p int) int {
	if !place(t, p) {
		return 0
	}
	row := t[strings.LastIndexByte(t[:p], '\n')+1 : p]
	_, size := utf8.DecodeLastRuneInString(row)
	return p - size
}

// holds holds what is told against what is wanted: beside an error nothing is told, without one a valid text and a place of it.
func holds(t *testing.T, what string, s string, more any, got, want answer) {
	t.Helper()
	if got != want {
		t.Fatalf("%s(%q, %#v): %q, %d, error %d, not %q, %d, error %d", what, s, more, got.text, got.at, got.e, want.text, want.at, want.e)
	}
	if !place(got.text, got.at) {
		t.Fatalf("%s(%q, %#v): %q, %d: not valid, or no place", what, s, more, got.text, got.at)
	}
}

// holdsType holds a text typed against the chapter's words.
func holdsType(t *testing.T, s string, p int, what string) {
	t.Helper()
	holds(t, "Type", s, []any{p, what}, told(entry.Type(s, p, what)), wantType(s, p, what))
}

// holdsCuts holds what is taken out against the chapter's words.
func holdsCuts(t *testing.T, s string, p, from int) {
	t.Helper()
	for _, c := range cuts {
		holds(t, c.name, s, []any{p, from}, told(c.do(s, p, from)), c.want(s, p, from))
	}
}

// holdsAgain holds what was typed, again, against the chapter's words.
func holdsAgain(t *testing.T, s string, p, from, n int) {
	t.Helper()
	holds(t, "Again", s, []any{p, from, n}, told(entry.Again(s, p, from, n)), wantAgain(s, p, from, n))
}

// holdsLeave holds where the cursor goes against the chapter's words.
func holdsLeave(t *testing.T, s string, p int) {
	t.Helper()
	if got, want := entry.Leave(s, p), wantLeave(s, p); got != want {
		t.Fatalf("Leave(%q, %d): %d, not %d", s, p, got, want)
	}
}

// P25.1: by hand: what is typed stands at the place, and the cursor goes behind it.
func TestType(t *testing.T) {
	const s = "ab\n\u00e9"
	for _, x := range []struct {
		p    int
		s    string
		want answer
	}{
		{0, "x", answer{"xab\n\u00e9", 1, api.OK}},
		{1, "x\u20ac", answer{"ax\u20acb\n\u00e9", 5, api.OK}},
		{2, "\n", answer{"ab\n\n\u00e9", 3, api.OK}},
		{3, "\t", answer{"ab\n\t\u00e9", 4, api.OK}},
		{5, "x\ny", answer{"ab\n\u00e9x\ny", 8, api.OK}},
		{3, "", answer{s, 3, api.OK}},
		{0, "\x00\x1b", answer{"\x00\x1bab\n\u00e9", 2, api.OK}},
		{4, "x", answer{e: api.ErrArg}}, {-1, "x", answer{e: api.ErrArg}}, {6, "x", answer{e: api.ErrArg}}, {4, "", answer{e: api.ErrArg}},
		{0, "\xff", answer{e: api.ErrArg}}, {0, "x\xc3", answer{e: api.ErrArg}}, {5, "\xa9", answer{e: api.ErrArg}},
	} {
		holds(t, "Type", s, x, told(entry.Type(s, x.p, x.s)), x.want)
	}
	holds(t, "Type", "", "", told(entry.Type("", 0, "")), answer{"", 0, api.OK})
	holds(t, "Type", "", "x", told(entry.Type("", 0, "x")), answer{"x", 1, api.OK})
	// What would be a rune with what stands beside it is none by itself.
	holds(t, "Type", "\xc3", "\xa9", told(entry.Type("\xc3", 1, "\xa9")), answer{e: api.ErrArg})
}

// P25.1: a text may have MaxText bytes then, and no more; what is not valid, or no place, is told ahead of that.
func TestTypeRoom(t *testing.T) {
	for _, size := range []int{0, 1, 2, 4090, 4092, 4093, 4094, 4095, 4096, 4097, 5000} {
		for _, n := range []int{0, 1, 2, 3, 4, 4094, 4095, 4096, 4097, 5000} {
			for _, p := range []int{-1, 0, size / 2, size, size + 1} {
				holdsType(t, strings.Repeat("a", size), p, strings.Repeat("x", n))
				holdsType(t, strings.Repeat("a", size), p, strings.Repeat("x", n)+"\xff")
			}
		}
	}
	holds(t, "Type", "4094 a", "two", told(entry.Type(strings.Repeat("a", 4094), 4094, "\u00e9")), answer{strings.Repeat("a", 4094) + "\u00e9", 4096, api.OK})
	holds(t, "Type", "4095 a", "two", told(entry.Type(strings.Repeat("a", 4095), 0, "\u00e9")), answer{e: api.ErrRoom})
	holds(t, "Type", "4097 a", "none", told(entry.Type(strings.Repeat("a", 4097), 0, "")), answer{e: api.ErrRoom})
}

// P25.1: all that is typed at all places of all texts, and at numbers beside them.
func TestTypeTexts(t *testing.T) {
	all := typed()
	for _, s := range texts() {
		for p := -1; p <= len(s)+1; p++ {
			for _, what := range all {
				holdsType(t, s, p, what)
			}
		}
	}
}

// P25.2: by hand: where each goes to, and what stops it.
func TestCuts(t *testing.T) {
	const s = "ab+- \t\u00e9f\n  x\n\n"
	// a0 b1 +2 -3 blank4 tab5 e6 f8 feed9 blank10 blank11 x12 feed13 feed14, and the end at 15
	type want struct {
		p, from          int
		back, chop, wipe int
	}
	for _, x := range []want{
		{1, 0, 0, 0, 0}, {2, 0, 1, 0, 0}, {2, 1, 1, 1, 1}, {3, 0, 2, 2, 0}, {4, 0, 3, 2, 0}, {4, 1, 3, 2, 1}, {4, 3, 3, 3, 3},
		// Blanks and tabs go, and then runes of one class.
		{5, 0, 4, 2, 0}, {6, 0, 5, 2, 0}, {6, 3, 5, 3, 3}, {6, 4, 5, 4, 4}, {6, 5, 5, 5, 5}, {8, 0, 6, 6, 0}, {8, 6, 6, 6, 6}, {9, 0, 8, 6, 0}, {9, 8, 8, 8, 8}, {9, 5, 8, 6, 5},
		// A line feed goes alone.
		{10, 0, 9, 9, 9}, {10, 9, 9, 9, 9}, {14, 0, 13, 13, 13}, {15, 0, 14, 14, 14}, {15, 14, 14, 14, 14},
		// Blanks behind a line feed go without it.
		{11, 0, 10, 10, 10}, {12, 0, 11, 10, 10}, {12, 10, 11, 10, 10}, {12, 11, 11, 11, 11}, {13, 0, 12, 12, 10}, {13, 11, 12, 12, 11},
	} {
		for i, at := range []int{x.back, x.chop, x.wipe} {
			c := cuts[i]
			holds(t, c.name, s, x, told(c.do(s, x.p, x.from)), answer{s[:at] + s[x.p:], at, api.OK})
		}
	}
	for _, c := range cuts {
		for _, x := range [][2]int{{0, 0}, {1, 1}, {1, 2}, {10, 10}, {9, 10}, {15, 15}, {0, 15}} {
			holds(t, c.name, s, x, told(c.do(s, x[0], x[1])), answer{e: api.ErrMove})
		}
		// No place is told ahead of what stands too far ahead.
		for _, x := range [][2]int{{7, 0}, {8, 7}, {7, 7}, {7, 8}, {-1, 0}, {0, -1}, {1, -1}, {-1, -1}, {16, 0}, {0, 16}, {16, 16}, {7, 15}} {
			holds(t, c.name, s, x, told(c.do(s, x[0], x[1])), answer{e: api.ErrArg})
		}
		holds(t, c.name, "", 0, told(c.do("", 0, 0)), answer{e: api.ErrMove})
		holds(t, c.name, "\n", 1, told(c.do("\n", 1, 0)), answer{"", 0, api.OK})
		holds(t, c.name, " ", 1, told(c.do(" ", 1, 0)), answer{"", 0, api.OK})
	}
	// The chapter's example.
	holds(t, "Chop", "ab  cd ", 7, told(entry.Chop("ab  cd ", 7, 0)), answer{"ab  ", 4, api.OK})
	holds(t, "Chop", "ab  cd ", 4, told(entry.Chop("ab  ", 4, 0)), answer{"", 0, api.OK})
}

// P25.2: of Chop runs are of the classes of layer 5, for all runes of one byte and some longer ones.
func TestChopClasses(t *testing.T) {
	l := []string{"\u0080", "\u0085", "\u00a0", "\u00e9", "\u07ff", "\u0800", "\u2028", "\u20ac", "\u3000", "\uff08", "\ufffd", "\U0001f600", "\U0010ffff"}
	for b := range rune(128) {
		l = append(l, string(b))
	}
	for _, one := range l {
		for _, two := range l {
			s := "aa" + one + two
			holdsCuts(t, s, len(s), 0)
			s += "++"
			holdsCuts(t, s, len(s), 0)
		}
	}
}

// P25.2: at all numbers of all texts and beside them, from all others.
func TestCutsTexts(t *testing.T) {
	for _, s := range texts() {
		for p := -1; p <= len(s)+1; p++ {
			for from := -1; from <= len(s)+1; from++ {
				holdsCuts(t, s, p, from)
			}
		}
	}
}

// P25.2: what a text has is not counted, since there is less behind.
func TestCutsHaveRoom(t *testing.T) {
	full := strings.Repeat("a", 5000)
	holds(t, "Back", "5000 a", 5000, told(entry.Back(full, 5000, 0)), answer{full[1:], 4999, api.OK})
	holds(t, "Chop", "5000 a", 5000, told(entry.Chop(full, 5000, 10)), answer{full[:10], 10, api.OK})
	holds(t, "Wipe", "5000 a", 4999, told(entry.Wipe(full, 4999, 0)), answer{"a", 0, api.OK})
}

// P25.3: by hand: what was typed stands as often more as is wanted.
func TestAgain(t *testing.T) {
	const s = "xa\u00e9\ny"
	for _, x := range []struct {
		p, from, n int
		want       answer
	}{
		{4, 1, 2, answer{"xa\u00e9a\u00e9\ny", 7, api.OK}},
		{4, 1, 4, answer{"xa\u00e9a\u00e9a\u00e9a\u00e9\ny", 13, api.OK}},
		{5, 2, 3, answer{"xa\u00e9\n\u00e9\n\u00e9\ny", 11, api.OK}},
		{6, 0, 2, answer{s + s, 12, api.OK}},
		{1, 0, 3, answer{"xxxa\u00e9\ny", 3, api.OK}},
		// None more.
		{4, 1, 1, answer{s, 4, api.OK}}, {4, 1, 0, answer{s, 4, api.OK}}, {4, 1, -5, answer{s, 4, api.OK}}, {4, 1, math.MinInt, answer{s, 4, api.OK}},
		// Nothing was typed.
		{4, 4, 9, answer{s, 4, api.OK}}, {0, 0, math.MaxInt, answer{s, 0, api.OK}}, {6, 6, 1 << 40, answer{s, 6, api.OK}},
		{1, 4, 1, answer{e: api.ErrArg}}, {0, 6, 2, answer{e: api.ErrArg}}, {3, 1, 1, answer{e: api.ErrArg}}, {4, 3, 1, answer{e: api.ErrArg}}, {3, 3, 1, answer{e: api.ErrArg}},
		{4, -1, 1, answer{e: api.ErrArg}}, {-1, -1, 1, answer{e: api.ErrArg}}, {7, 0, 1, answer{e: api.ErrArg}}, {7, 7, 1, answer{e: api.ErrArg}}, {6, 7, 1, answer{e: api.ErrArg}},
		{4, 1, math.MaxInt, answer{e: api.ErrRoom}}, {1, 4, math.MaxInt, answer{e: api.ErrArg}},
	} {
		holds(t, "Again", s, x, told(entry.Again(s, x.p, x.from, x.n)), x.want)
	}
	holds(t, "Again", "", 0, told(entry.Again("", 0, 0, 3)), answer{"", 0, api.OK})
}

// P25.3: a text may have MaxText bytes then, and no more, however often something is put in.
func TestAgainRoom(t *testing.T) {
	for _, size := range []int{0, 1, 2, 3, 2047, 2048, 2049, 4090, 4094, 4095, 4096, 4097, 5000} {
		for _, n := range append(far(), -1, 0, 1, 2, 3, 4, 5, 7, 1364, 1365, 1366, 2047, 2048, 2049, 4094, 4095, 4096, 4097, 4098, math.MaxInt/2, math.MaxInt/3) {
			for _, of := range []int{0, 1, 2, 3, 5, 2048, 4096, 5000} {
				for _, p := range []int{of, size / 2, size} {
					holdsAgain(t, strings.Repeat("a", size), p, p-of, n)
				}
			}
		}
	}
	holds(t, "Again", "1024 runes", 4096, told(entry.Again("\U0001f600", 4, 0, 1024)), answer{strings.Repeat("\U0001f600", 1024), 4096, api.OK})
	holds(t, "Again", "1025 runes", 4100, told(entry.Again("\U0001f600", 4, 0, 1025)), answer{e: api.ErrRoom})
}

// P25.3: at all numbers of all texts and beside them, from all others, with all counts.
func TestAgainTexts(t *testing.T) {
	for _, s := range texts() {
		for p := -1; p <= len(s)+1; p++ {
			for from := -1; from <= len(s)+1; from++ {
				for n := -1; n <= 4; n++ {
					holdsAgain(t, s, p, from, n)
				}
			}
		}
	}
}

// P25.4: by hand: the rune ahead, but not beyond the line's start.
func TestLeave(t *testing.T) {
	const s = "ab+ \u00e9f\n\n  x\n"
	for _, x := range [][2]int{{0, 0}, {1, 0}, {2, 1}, {4, 3}, {6, 4}, {7, 6}, {8, 8}, {9, 9}, {10, 9}, {11, 10}, {12, 11}, {13, 13}, {5, 0}, {-1, 0}, {14, 0}, {99, 0}} {
		if got := entry.Leave(s, x[0]); got != x[1] {
			t.Errorf("Leave(%q, %d): %d, not %d", s, x[0], got, x[1])
		}
	}
	for _, x := range []struct {
		s    string
		p, q int
	}{{"", 0, 0}, {"", 1, 0}, {"\n", 0, 0}, {"\n", 1, 1}, {"a", 1, 0}, {"\U0001f600", 4, 0}, {"\u20ac\U0001f600", 7, 3}, {"a\xff", 1, 0}, {"\xffab", 3, 0}, {"ab\xff", 2, 0}} {
		if got := entry.Leave(x.s, x.p); got != x.q {
			t.Errorf("Leave(%q, %d): %d, not %d", x.s, x.p, got, x.q)
		}
	}
}

// P25.4: at all numbers of all texts, and beside them.
func TestLeaveTexts(t *testing.T) {
	for _, s := range texts() {
		for p := -2; p <= len(s)+2; p++ {
			holdsLeave(t, s, p)
		}
	}
}

// P25.1 to P25.4: far numbers are no places, and of what is not valid all is refused, also where what is wrong is in another line.
func TestNoPlaces(t *testing.T) {
	refused := func(s string, p, from int) {
		t.Helper()
		want := answer{e: api.ErrArg}
		for _, c := range cuts {
			holds(t, c.name, s, []any{p, from}, told(c.do(s, p, from)), want)
		}
		for _, n := range []int{math.MinInt, 1, 2, math.MaxInt} {
			holds(t, "Again", s, []any{p, from, n}, told(entry.Again(s, p, from, n)), want)
		}
	}
	unplaced := func(s string, p int) {
		t.Helper()
		for _, what := range []string{"", "x", "\n", "\xff"} {
			holds(t, "Type", s, []any{p, what}, told(entry.Type(s, p, what)), answer{e: api.ErrArg})
		}
		if got := entry.Leave(s, p); got != 0 {
			t.Fatalf("Leave(%q, %d): %d", s, p, got)
		}
	}
	for _, s := range []string{"", "\n", "ab\ncd"} {
		for _, p := range far() {
			unplaced(s, p)
			for _, other := range append(far(), 0, len(s)) {
				refused(s, p, other)
				refused(s, other, p)
			}
		}
	}
	for _, s := range wrong() {
		if utf8.ValidString(s) {
			t.Fatalf("%q is valid", s)
		}
		for p := -1; p <= len(s)+1; p++ {
			unplaced(s, p)
			for from := -1; from <= len(s)+1; from++ {
				refused(s, p, from)
			}
		}
		// What is typed counts as well, wherever that is.
		holds(t, "Type", "a\n", s, told(entry.Type("a\n", 2, s)), answer{e: api.ErrArg})
	}
}

// P25.5: what was typed is taken out by as many Backs as it has runes, and by no more.
func TestTypedAndBack(t *testing.T) {
	all := append(typed(), byHand()...)
	for _, s := range texts() {
		for _, from := range places(s) {
			for _, what := range all {
				now, p, e := entry.Type(s, from, what)
				for range utf8.RuneCountInString(what) {
					if e != api.OK || p <= from {
						t.Fatalf("%q at %d of %q: %q, %d, error %d", what, from, s, now, p, e)
					}
					now, p, e = entry.Back(now, p, from)
				}
				if now != s || p != from || e != api.OK {
					t.Fatalf("%q at %d of %q: %q, %d, error %d", what, from, s, now, p, e)
				}
				holds(t, "Back", now, p, told(entry.Back(now, p, from)), answer{e: api.ErrMove})
			}
		}
	}
}

// P25.2: Chops and Wipes come to where typing began in the end, and nothing ahead of that goes.
func TestTypedAndOut(t *testing.T) {
	for _, s := range texts() {
		for _, from := range places(s) {
			for _, what := range typed() {
				for _, c := range cuts {
					now, p, e := entry.Type(s, from, what)
					for range len(what) {
						if p > from && e == api.OK {
							now, p, e = c.do(now, p, from)
						}
					}
					if now != s || p != from || e != api.OK {
						t.Fatalf("%s, %q at %d of %q: %q, %d, error %d", c.name, what, from, s, now, p, e)
					}
				}
			}
		}
	}
}

// P25.3: what was typed n times is the same as Again.
func TestTypedAgain(t *testing.T) {
	for _, s := range byHand() {
		for _, from := range places(s) {
			for _, what := range typed() {
				one, p, _ := entry.Type(s, from, what)
				for n := 1; n <= 4; n++ {
					want := told(entry.Type(s, from, strings.Repeat(what, n)))
					holds(t, "Again", one, []any{p, from, n}, told(entry.Again(one, p, from, n)), want)
				}
			}
		}
	}
}

// P25.1 to P25.4: longer texts of all kinds of runes.
func TestSome(t *testing.T) {
	random := rand.New(rand.NewSource(25))
	runes := []string{"a", "Z", "_", "7", " ", " ", "\t", "\n", ".", "+", "\u00e9", "\u20ac", "\U0001f600"}
	text := func(n int) string {
		s := ""
		for range random.Intn(n) {
			s += runes[random.Intn(len(runes))]
		}
		return s
	}
	for range 3000 {
		s := text(60)
		all := places(s)
		for range 10 {
			p, from := all[random.Intn(len(all))], all[random.Intn(len(all))]
			holdsType(t, s, p, text(9))
			holdsCuts(t, s, p, from)
			holdsCuts(t, s, p, 0)
			holdsAgain(t, s, p, from, random.Intn(8)-1)
			holdsLeave(t, s, p)
		}
	}
}

// An answer is new memory, also where nothing stands around what is typed or left, or nothing was done.
func TestAnswersAreNew(t *testing.T) {
	// Of texts that were made this way all that is not copied on purpose would be shared.
	s, what := strings.Repeat("1\n\n2. \n", 2), strings.Repeat("3", 9)
	apart := func(name string, text string) {
		t.Helper()
		at := uintptr(unsafe.Pointer(unsafe.StringData(text)))
		for _, other := range []string{s, what} {
			from := uintptr(unsafe.Pointer(unsafe.StringData(other)))
			if text != "" && from < at+uintptr(len(text)) && at < from+uintptr(len(other)) {
				t.Errorf("%s: %q", name, text)
			}
		}
	}
	for p := range len(s) + 1 {
		for _, x := range []string{"", what, s} {
			text, _, _ := entry.Type(s, p, x)
			apart("Type", text)
			text, _, _ = entry.Type("", 0, x)
			apart("Type", text)
		}
		for from := range p + 1 {
			for _, c := range cuts {
				text, _, _ := c.do(s, p, from)
				apart(c.name, text)
			}
			for n := range 3 {
				text, _, _ := entry.Again(s, p, from, n)
				apart("Again", text)
			}
		}
	}
}

// What is told hangs on nothing that was asked ahead, be it refused or not.
func TestNothingIsKept(t *testing.T) {
	for _, other := range append(byHand(), wrong()...) {
		for p := -1; p <= len(other)+1; p++ {
			entry.Type(other, p, other)
			entry.Again(other, p, 0, 3)
			entry.Leave(other, p)
			for _, c := range cuts {
				c.do(other, p, 0)
			}
			const s = "aB\n \tc+ "
			holdsType(t, s, 1, "x")
			holdsCuts(t, s, len(s), 0)
			holdsCuts(t, s, 5, 1)
			holdsAgain(t, s, 2, 1, 3)
			holdsLeave(t, s, len(s))
		}
	}
}

// Far counts and long texts do not take long, whatever is asked.
func TestLong(t *testing.T) {
	long := strings.Repeat("a\u00e9", 100000)
	end := len(long)
	holds(t, "Type", "long", "x", told(entry.Type(long, 0, "x")), answer{e: api.ErrRoom})
	holds(t, "Type", "", "long", told(entry.Type("", 0, long)), answer{e: api.ErrRoom})
	holds(t, "Back", "long", end, told(entry.Back(long, end, 0)), answer{long[:end-2], end - 2, api.OK})
	holds(t, "Chop", "long", end, told(entry.Chop(long, end, 0)), answer{"", 0, api.OK})
	holds(t, "Chop", "blanks", end, told(entry.Chop("+"+strings.Repeat(" ", end), end+1, 0)), answer{"", 0, api.OK})
	holds(t, "Wipe", "long", end, told(entry.Wipe(long, end, 3)), answer{long[:3], 3, api.OK})
	holds(t, "Again", "long", "far", told(entry.Again(long, end, 0, math.MaxInt)), answer{e: api.ErrRoom})
	holds(t, "Again", "long", "none", told(entry.Again(long, end, end, math.MaxInt)), answer{e: api.ErrRoom})
	if at := entry.Leave(long, end); at != end-2 {
		t.Errorf("Leave: %d", at)
	}
}
