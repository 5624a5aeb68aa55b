package oper_test

import (
	"math"
	"math/rand"
	"slices"
	"strings"
	"testing"
	"unicode/utf8"
	"unsafe"

	"calamus/api"
	"calamus/oper"
)

// hows are the letters of the chapter, with what each does to a letter of a to z, and to one of A to Z.
func hows() map[int]func(byte) byte {
	const small, great = "abcdefghijklmnopqrstuvwxyz", "ABCDEFGHIJKLMNOPQRSTUVWXYZ"
	other := func(of, as string) func(byte) byte {
		return func(b byte) byte {
			if i := strings.IndexByte(of, b); i >= 0 {
				return as[i]
			}
			return b
		}
	}
	return map[int]func(byte) byte{'U': other(small, great), 'u': other(great, small), '~': other(small+great, great+small)}
}

// texts are valid ones: all of up to some runes of a letter, blanks, tabs and line feeds, of longer runes with them, and some by hand.
func texts() []string {
	l := made([]string{"a", " ", "\t", "\n"}, 4)
	l = append(l, made([]string{"x", "\n"}, 6)...)
	l = append(l, made([]string{" ", "\n", "b"}, 5)...)
	l = append(l, made([]string{"\u00e9", "\n", "Z "}, 4)...)
	return append(l, byHand()...)
}

// byHand are texts as they are written.
func byHand() []string {
	return []string{
		"ab c\n\t x\n\nend", "a\u00e9\n\nxyz", "one two\n  Three\n\n\n\tfour \n", "\n\n\n", "\u20ac\n\U0001f600\n \u00e9\n",
		"     x\n    x\n   x\n \tx\n\t x\n\t\tx\n      ", "a \n b\n\t\n \nc\t\n\t d", "(\n  aB,\n\n\tc\n)",
		// What ends no line of layer 4, and is no blank, though it is elsewhere.
		"a\r\nb\r\n", "a\n\rb", "a\rb\vc\n\fd\u0085e\n\u2028f\n\u00a0g\n\u3000h", "a\x00\n\x7fb",
		// Runes with a byte that has the low bits of a line feed, a blank, a tab or a letter.
		"\u010a\n\u0a0a\u8a8a\n\u0120\u0109", "\ufffd\n\ufeff", "\u0141\u0161\n\u00c0\u00e0\u0391\u03b1",
	}
}

// made are all texts of up to n of these runes.
func made(runes []string, n int) []string {
	l := []string{""}
	for from := 0; n > 0; n-- {
		to := len(l)
		for _, s := range l[from:to] {
			for _, r := range runes {
				l = append(l, s+r)
			}
		}
		from = to
	}
	return l
}

// wrong are bytes that are no valid texts, with lines ahead of what is wrong and behind it.
func wrong() []string {
	l := []string{
		"\xff", "\x80", "\xc3", "\xc3a", "\xe2\x82", "\xe2\x82\n", "\xf0\x9f\x98", "\xc0\x8a", "\xe0\x80\x8a", "\xed\xa0\x80", "\xf4\x90\x80\x80", "\u00e9\x80",
	}
	for _, s := range l {
		l = append(l, "ab\n"+s, s+"\nab", "a\n"+s+"\nb", "\n\n"+s, s+"\n\n")
	}
	return l
}

// far are numbers beyond all texts, from both ends of what a number can be.
func far() []int {
	return []int{math.MinInt, math.MinInt + 1, math.MinInt32, math.MaxInt32, 1 << 32, math.MaxInt - 1, math.MaxInt}
}

// places are where a text's runes begin, and its end.
func places(t string) []int {
	l := []int{}
	for p := range t {
		l = append(l, p)
	}
	return append(l, len(t))
}

// start is where a line of a text starts, told by those ahead of it, each with its line feed.
func start(rows []string, k int) int {
	at := 0
	for _, s := range rows[:k] {
		at += len(s) + 1
	}
	return at
}

// rowOf is the number of the line of a place: as many line feeds as there are ahead of it.
func rowOf(t string, p int) int { return strings.Count(t[:p], "\n") }

// clamp is the normal place of a place.
func clamp(t string, p int) int {
	before, _ := utf8.DecodeLastRuneInString(t[:p])
	if (p == len(t) || t[p] == '\n') && p > 0 && before != '\n' {
		return p - utf8.RuneLen(before)
	}
	return p
}

// first is where the first rune of a line is that is neither a blank nor a tab, or the line's last one, or its start.
func first(t string, k int) int {
	rows := strings.Split(t, "\n")
	rest := strings.TrimLeft(rows[k], " \t")
	at := start(rows, k) + len(rows[k]) - len(rest)
	if rest == "" {
		return clamp(t, at)
	}
	return at
}

// lines is the range of lines of a text, from the first one's start to the last one's end.
func lines(t string, first, last int) api.Range {
	rows := strings.Split(t, "\n")
	return api.Range{From: start(rows, first), To: start(rows, last) + len(rows[last]), Lines: true}
}

// ranges are all that may be of a valid text: from all places to all behind them, and all its lines.
func ranges(t string) []api.Range {
	l, all := []api.Range{}, places(t)
	for i, p := range all {
		for _, q := range all[i:] {
			l = append(l, api.Range{From: p, To: q})
		}
	}
	n := strings.Count(t, "\n") + 1
	for first := range n {
		for last := first; last < n; last++ {
			l = append(l, lines(t, first, last))
		}
	}
	return l
}

// rowsOf are the first and the last one of a range's lines.
func rowsOf(t string, r api.Range) (int, int) {
	first, last := rowOf(t, r.From), rowOf(t, r.To)
	if !r.Lines && r.From < r.To && strings.HasSuffix(t[:r.To], "\n") {
		last--
	}
	return first, last
}

// answer is what is told.
type answer struct {
	text string
	at   int
	e    api.Errno
}

// told is what a function tells.
func told(s string, p int, e api.Errno) answer { return answer{s, p, e} }

// wantTake is what the chapter says of a range that may be: whole lines are taken out of those that there are, others byte by byte.
func wantTake(t string, r api.Range) answer {
	if !r.Lines && r.From == r.To {
		return answer{e: api.ErrMove}
	}
	if !r.Lines {
		s := t[:r.From] + t[r.To:]
		return answer{s, clamp(s, r.From), api.OK}
	}
	a, b := rowsOf(t, r)
	rows := slices.Delete(strings.Split(t, "\n"), a, b+1)
	s := strings.Join(rows, "\n")
	return answer{s, first(s, min(a, strings.Count(s, "\n"))), api.OK}
}

// wantShift is what the chapter says of a range that may be: line by line.
func wantShift(t string, r api.Range, left bool) answer {
	a, b := rowsOf(t, r)
	rows := strings.Split(t, "\n")
	for k := a; k <= b; k++ {
		s := rows[k]
		switch {
		case !left && s != "":
			s = "\t" + s
		case left && strings.HasPrefix(s, "\t"):
			s = s[1:]
		case left:
			for range 4 {
				s = strings.TrimPrefix(s, " ")
			}
		}
		rows[k] = s
	}
	s := strings.Join(rows, "\n")
	if len(s) > 4096 {
		return answer{e: api.ErrRoom}
	}
	return answer{s, first(s, a), api.OK}
}

// wantCase is what the chapter says of a range that may be and of a letter: byte by byte.
func wantCase(t string, r api.Range, how func(byte) byte) answer {
	if !r.Lines && r.From == r.To {
		return answer{e: api.ErrMove}
	}
	l := []byte(t)
	for p := r.From; p < r.To; p++ {
		l[p] = how(l[p])
	}
	return answer{string(l), clamp(t, r.From), api.OK}
}

// wantJoin is what the chapter says of a valid text: the lines are joined one by one.
func wantJoin(t string, k, n int) answer {
	rows := strings.Split(t, "\n")
	if k < 0 || k >= len(rows) {
		return answer{e: api.ErrArg}
	}
	if k == len(rows)-1 {
		return answer{e: api.ErrMove}
	}
	n = max(n, 2)
	there, at := rows[k], 0
	next := k + 1
	for next < len(rows) && next-k < n {
		s := strings.TrimLeft(rows[next], " \t")
		at = len(there)
		if there != "" && s != "" && strings.TrimRight(there, " \t") == there {
			there += " "
		}
		there += s
		next++
	}
	at += start(rows, k)
	s := strings.Join(slices.Replace(rows, k, next, there), "\n")
	return answer{s, clamp(s, at), api.OK}
}

// holds holds what is told against what is wanted: beside an error nothing is told, without one a valid text and a place of it.
func holds(t *testing.T, what string, s string, more any, got, want answer) {
	t.Helper()
	if got != want {
		t.Fatalf("%s(%q, %v): %q, %d, error %d, not %q, %d, error %d", what, s, more, got.text, got.at, got.e, want.text, want.at, want.e)
	}
	if !utf8.ValidString(got.text) || !slices.Contains(places(got.text), got.at) {
		t.Fatalf("%s(%q, %v): %q, %d: not valid, or no place", what, s, more, got.text, got.at)
	}
}

// refused holds all operators against an error of a range.
func refused(t *testing.T, s string, r api.Range, e api.Errno) {
	t.Helper()
	want := answer{e: e}
	holds(t, "Take", s, r, told(oper.Take(s, r)), want)
	holds(t, "Clear", s, r, told(oper.Clear(s, r)), want)
	for _, left := range []bool{false, true} {
		holds(t, "Shift", s, r, told(oper.Shift(s, r, left)), want)
	}
	for how := range hows() {
		holds(t, "Case", s, r, told(oper.Case(s, r, how)), want)
	}
}

// P23.1: by hand, with the place in the text behind.
func TestTake(t *testing.T) {
	// a0 b1 blank2 c3 feed4 tab5 blank6 x7 feed8 feed9 e10 n11 d12; the end is at 13.
	const s = "ab c\n\t x\n\nend"
	for _, x := range []struct {
		r    api.Range
		want answer
	}{
		{api.Range{From: 0, To: 2}, answer{" c\n\t x\n\nend", 0, api.OK}},
		{api.Range{From: 1, To: 3}, answer{"ac\n\t x\n\nend", 1, api.OK}},
		// Nothing is behind it in its line: the cursor goes back to what is left.
		{api.Range{From: 2, To: 4}, answer{"ab\n\t x\n\nend", 1, api.OK}},
		{api.Range{From: 12, To: 13}, answer{"ab c\n\t x\n\nen", 11, api.OK}},
		{api.Range{From: 0, To: 4}, answer{"\n\t x\n\nend", 0, api.OK}},
		{api.Range{From: 10, To: 13}, answer{"ab c\n\t x\n\n", 10, api.OK}},
		// Line feeds that are no whole lines go alone.
		{api.Range{From: 4, To: 5}, answer{"ab c\t x\n\nend", 4, api.OK}},
		{api.Range{From: 4, To: 9}, answer{"ab c\nend", 3, api.OK}},
		{api.Range{From: 9, To: 10}, answer{"ab c\n\t x\nend", 9, api.OK}},
		{api.Range{From: 0, To: 13}, answer{"", 0, api.OK}},
		{api.Range{From: 3, To: 3}, answer{e: api.ErrMove}},
		{api.Range{From: 9, To: 9}, answer{e: api.ErrMove}},
		{api.Range{From: 13, To: 13}, answer{e: api.ErrMove}},
		// Whole lines, with the line feed behind, or that ahead.
		{lines(s, 0, 0), answer{"\t x\n\nend", 2, api.OK}},
		{lines(s, 0, 1), answer{"\nend", 0, api.OK}},
		{lines(s, 1, 1), answer{"ab c\n\nend", 5, api.OK}},
		{lines(s, 1, 2), answer{"ab c\nend", 5, api.OK}},
		{lines(s, 2, 2), answer{"ab c\n\t x\nend", 9, api.OK}},
		{lines(s, 3, 3), answer{"ab c\n\t x\n", 9, api.OK}},
		{lines(s, 2, 3), answer{"ab c\n\t x", 7, api.OK}},
		{lines(s, 1, 3), answer{"ab c", 0, api.OK}},
		{lines(s, 0, 3), answer{"", 0, api.OK}},
	} {
		holds(t, "Take", s, x.r, told(oper.Take(s, x.r)), x.want)
	}
	holds(t, "Take", "", "lines", told(oper.Take("", api.Range{Lines: true})), answer{})
	holds(t, "Take", "", "", told(oper.Take("", api.Range{})), answer{e: api.ErrMove})
	holds(t, "Take", "\n", "lines", told(oper.Take("\n", api.Range{Lines: true})), answer{})
	holds(t, "Take", "a\n", "lines", told(oper.Take("a\n", api.Range{From: 2, To: 2, Lines: true})), answer{"a", 0, api.OK})
	// Of a line of blanks First is the last one; and a rune may be of several bytes.
	holds(t, "Take", "a\n \t", "lines", told(oper.Take("a\n \t", api.Range{To: 1, Lines: true})), answer{" \t", 1, api.OK})
	holds(t, "Take", "\u20ac\u00e9", "", told(oper.Take("\u20ac\u00e9", api.Range{From: 3, To: 5})), answer{"\u20ac", 0, api.OK})
}

// P23.2: by hand: From is told as it is, on a line feed and at the text's end as well; nothing may be cleared.
func TestClear(t *testing.T) {
	const s = "ab c\n\t x\n\nend"
	for _, x := range []struct {
		r    api.Range
		want string
	}{
		{api.Range{From: 1, To: 3}, "ac\n\t x\n\nend"}, {api.Range{From: 2, To: 4}, "ab\n\t x\n\nend"}, {api.Range{From: 3, To: 3}, s}, {api.Range{From: 13, To: 13}, s},
		{api.Range{From: 4, To: 10}, "ab cend"}, {api.Range{From: 11, To: 13}, "ab c\n\t x\n\ne"}, {api.Range{From: 0, To: 13}, ""},
		// Of whole lines the line feed behind the last one stays.
		{lines(s, 0, 0), "\n\t x\n\nend"}, {lines(s, 1, 1), "ab c\n\n\nend"}, {lines(s, 2, 2), s}, {lines(s, 1, 2), "ab c\n\nend"}, {lines(s, 3, 3), "ab c\n\t x\n\n"}, {lines(s, 0, 3), ""},
	} {
		holds(t, "Clear", s, x.r, told(oper.Clear(s, x.r)), answer{x.want, x.r.From, api.OK})
	}
	holds(t, "Clear", "", "", told(oper.Clear("", api.Range{})), answer{})
	holds(t, "Clear", "", "lines", told(oper.Clear("", api.Range{Lines: true})), answer{})
}

// P23.3: by hand: of whole lines, and of others, whose lines are those that they touch.
func TestShift(t *testing.T) {
	const s = "ab c\n\t x\n\nend"
	for _, x := range []struct {
		s    string
		r    api.Range
		left bool
		want answer
	}{
		{s, lines(s, 0, 3), false, answer{"\tab c\n\t\t x\n\n\tend", 1, api.OK}},
		{s, lines(s, 1, 1), false, answer{"ab c\n\t\t x\n\nend", 8, api.OK}},
		{s, lines(s, 2, 2), false, answer{s, 9, api.OK}},
		{s, lines(s, 2, 3), false, answer{"ab c\n\t x\n\n\tend", 9, api.OK}},
		{s, lines(s, 1, 3), true, answer{"ab c\n x\n\nend", 6, api.OK}},
		{s, lines(s, 0, 0), true, answer{s, 0, api.OK}},
		// One place, a part of a line, and parts of several.
		{s, api.Range{From: 3, To: 3}, false, answer{"\tab c\n\t x\n\nend", 1, api.OK}},
		{s, api.Range{From: 13, To: 13}, false, answer{"ab c\n\t x\n\n\tend", 11, api.OK}},
		{s, api.Range{From: 2, To: 4}, false, answer{"\tab c\n\t x\n\nend", 1, api.OK}},
		{s, api.Range{From: 7, To: 11}, false, answer{"ab c\n\t\t x\n\n\tend", 8, api.OK}},
		// Behind a line feed nothing of the line is in the range.
		{s, api.Range{From: 0, To: 5}, false, answer{"\tab c\n\t x\n\nend", 1, api.OK}},
		{s, api.Range{From: 5, To: 5}, true, answer{"ab c\n x\n\nend", 6, api.OK}},
		{"a\nb", api.Range{To: 3}, false, answer{"\ta\n\tb", 1, api.OK}},
		// At most four blanks, or one tab: what stands behind these stays.
		{"      x", lines("      x", 0, 0), true, answer{"  x", 2, api.OK}},
		{"    x", lines("    x", 0, 0), true, answer{"x", 0, api.OK}},
		{"   x", lines("   x", 0, 0), true, answer{"x", 0, api.OK}},
		{" x ", lines(" x ", 0, 0), true, answer{"x ", 0, api.OK}},
		{"\t\tx", lines("\t\tx", 0, 0), true, answer{"\tx", 1, api.OK}},
		{"\t    x", lines("\t    x", 0, 0), true, answer{"    x", 4, api.OK}},
		{"  \tx", lines("  \tx", 0, 0), true, answer{"\tx", 1, api.OK}},
		{"x    ", lines("x    ", 0, 0), true, answer{"x    ", 0, api.OK}},
		{"\n    ", lines("\n    ", 1, 1), true, answer{"\n", 1, api.OK}},
		{"     \n  ", lines("     \n  ", 0, 1), true, answer{" \n", 0, api.OK}},
		// A line of blanks is not empty; other blanks are none.
		{" \n\n", lines(" \n\n", 0, 2), false, answer{"\t \n\n", 1, api.OK}},
		{"\u00a0x\n\rx", lines("\u00a0x\n\rx", 0, 1), true, answer{"\u00a0x\n\rx", 0, api.OK}},
		{"\u00e9\n\r", lines("\u00e9\n\r", 0, 1), false, answer{"\t\u00e9\n\t\r", 1, api.OK}},
		{"", lines("", 0, 0), false, answer{}},
		{"", api.Range{}, true, answer{}},
	} {
		holds(t, "Shift", x.s, x.r, told(oper.Shift(x.s, x.r, x.left)), x.want)
	}
}

// P23.3: a text may have MaxText bytes, and no more; what goes is counted, too.
func TestShiftRoom(t *testing.T) {
	full := strings.Repeat("a", 4096)
	for _, x := range []struct {
		s    string
		left bool
	}{
		{full, false}, {full[1:], false}, {full, true}, {full + "a", true}, {full + "a", false}, {full + strings.Repeat("\n", 9), false},
		{" " + full, true}, {"\t" + full, true}, {"    " + full, true}, {"     " + full, true}, {"   \n" + full, true}, {"    \n" + full[1:], true}, {"    \n" + full, true},
		{full[:4094] + "\nb", false}, {full[:4093] + "\nb", false}, {full[:4092] + "\nb", false}, {strings.Repeat("\n", 4096), false}, {strings.Repeat("\n", 4097), false},
		{strings.Repeat("a\n", 1365), false}, {strings.Repeat("a\n", 1365) + "a", false}, {strings.Repeat("    \n", 4095), true}, {strings.Repeat("    \n", 4096), true}, {strings.Repeat("    \n", 4097), true},
	} {
		r := lines(x.s, 0, strings.Count(x.s, "\n"))
		holds(t, "Shift", x.s, x.left, told(oper.Shift(x.s, r, x.left)), wantShift(x.s, r, x.left))
	}
	// One line of two, which may be empty: then nothing is put in.
	for _, s := range []string{full[2:] + "\nb", full[1:] + "\nb", "b\n" + full[3:], "\n" + full[1:], "\n" + full} {
		for k := range 2 {
			holds(t, "Shift", s, k, told(oper.Shift(s, lines(s, k, k), false)), wantShift(s, lines(s, k, k), false))
		}
	}
}

// P23.4: by hand: letters a to z and A to Z alone, within the range.
func TestCase(t *testing.T) {
	const s = "aB \u00e9z\n[{@Zy"
	for _, x := range []struct {
		r    api.Range
		how  int
		want answer
	}{
		{api.Range{From: 0, To: 12}, 'U', answer{"AB \u00e9Z\n[{@ZY", 0, api.OK}},
		{api.Range{From: 0, To: 12}, 'u', answer{"ab \u00e9z\n[{@zy", 0, api.OK}},
		{api.Range{From: 0, To: 12}, '~', answer{"Ab \u00e9Z\n[{@zY", 0, api.OK}},
		{api.Range{From: 1, To: 6}, '~', answer{"ab \u00e9Z\n[{@Zy", 1, api.OK}},
		{api.Range{From: 11, To: 12}, 'U', answer{"aB \u00e9z\n[{@ZY", 11, api.OK}},
		// From may be no normal place.
		{api.Range{From: 6, To: 12}, 'u', answer{"aB \u00e9z\n[{@zy", 5, api.OK}},
		{lines(s, 0, 0), 'U', answer{"AB \u00e9Z\n[{@Zy", 0, api.OK}},
		{lines(s, 1, 1), '~', answer{"aB \u00e9z\n[{@zY", 7, api.OK}},
		{lines(s, 0, 1), 'u', answer{"ab \u00e9z\n[{@zy", 0, api.OK}},
		{api.Range{From: 2, To: 2}, 'U', answer{e: api.ErrMove}},
		{api.Range{From: 12, To: 12}, 'u', answer{e: api.ErrMove}},
	} {
		holds(t, "Case", s, x.r, told(oper.Case(s, x.r, x.how)), x.want)
	}
	for how := range hows() {
		holds(t, "Case", "a\n\nb", "an empty line", told(oper.Case("a\n\nb", api.Range{From: 2, To: 2, Lines: true}, how)), answer{"a\n\nb", 2, api.OK})
		holds(t, "Case", "", "lines", told(oper.Case("", api.Range{Lines: true}, how)), answer{})
		holds(t, "Case", "", "", told(oper.Case("", api.Range{}, how)), answer{e: api.ErrMove})
		holds(t, "Case", "a\n", "behind the last line feed", told(oper.Case("a\n", api.Range{From: 2, To: 2, Lines: true}, how)), answer{"a\n", 2, api.OK})
	}
}

// P23.4: all bytes of one byte's runes, and some longer ones, by all letters.
func TestCaseRunes(t *testing.T) {
	s := ""
	for r := range rune(0x250) {
		s += string(r)
	}
	s += "\u0391\u03b1\u0410\u0430\u1e9e\u212a\u24d0\uff21\uff41\U00010400\U00010428"
	for how, f := range hows() {
		for _, r := range []api.Range{{To: len(s)}, lines(s, 0, 1), lines(s, 1, 1)} {
			holds(t, "Case", s, how, told(oper.Case(s, r, how)), wantCase(s, r, f))
		}
	}
}

// P23.4: no other number is a letter of its own, not even with a range that has nothing, or may not be.
func TestNoCase(t *testing.T) {
	l := append(far(), 'U'+256, 'u'+1<<16, '~'+1<<32, -'U', -'u', -'~')
	for how := -300; how < 1200; how++ {
		l = append(l, how)
	}
	has := hows()
	for _, how := range l {
		if has[how] != nil {
			continue
		}
		for _, r := range []api.Range{{To: 2}, {To: 2, Lines: true}, {}, {From: 1, To: 1}, {From: 2, To: 1}, {To: 9}} {
			holds(t, "Case", "aB", how, told(oper.Case("aB", r, how)), answer{e: api.ErrArg})
		}
	}
}

// P23.5: by hand: the chapter's example, what is between, and where the cursor goes.
func TestJoin(t *testing.T) {
	const s = "ab c\n\t x\n\nend"
	for _, x := range []struct {
		s    string
		k, n int
		want answer
	}{
		{"a\n  b", 0, 2, answer{"a b", 1, api.OK}},
		{s, 0, 0, answer{"ab c x\n\nend", 4, api.OK}},
		{s, 0, 3, answer{"ab c x\nend", 5, api.OK}},
		{s, 0, 4, answer{"ab c x end", 6, api.OK}},
		{s, 0, 9, answer{"ab c x end", 6, api.OK}},
		{s, 1, 2, answer{"ab c\n\t x\nend", 7, api.OK}},
		{s, 1, 3, answer{"ab c\n\t x end", 8, api.OK}},
		{s, 2, 2, answer{"ab c\n\t x\nend", 9, api.OK}},
		{s, 2, 9, answer{"ab c\n\t x\nend", 9, api.OK}},
		// A blank stands between, but where there is one, or a tab, or nothing.
		{"a \nb", 0, 2, answer{"a b", 2, api.OK}},
		{"a\t\nb", 0, 2, answer{"a\tb", 2, api.OK}},
		{"a  \n \tb", 0, 2, answer{"a  b", 3, api.OK}},
		{"a\n", 0, 2, answer{"a", 0, api.OK}},
		{"a \n \t ", 0, 2, answer{"a ", 1, api.OK}},
		{"\n  b", 0, 2, answer{"b", 0, api.OK}},
		{" \nb", 0, 2, answer{" b", 1, api.OK}},
		{"\n", 0, 2, answer{"", 0, api.OK}},
		{"\n\n", 1, 2, answer{"\n", 1, api.OK}},
		{"  a\nb", 0, 2, answer{"  a b", 3, api.OK}},
		{"a\nb ", 0, 2, answer{"a b ", 1, api.OK}},
		// Lines without runes add nothing, wherever they stand.
		{"a\n\n\nb", 0, 4, answer{"a b", 1, api.OK}},
		{"a\n\n\nb", 0, 3, answer{"a\nb", 0, api.OK}},
		{"\n\na\n \nb", 0, 9, answer{"a b", 1, api.OK}},
		{"a\nb\nc\nd", 1, 2, answer{"a\nb c\nd", 3, api.OK}},
		{"a\nb\nc\nd", 0, 3, answer{"a b c\nd", 3, api.OK}},
		// Longer runes, and what is no blank.
		{"\u00e9\n\u20ac", 0, 2, answer{"\u00e9 \u20ac", 2, api.OK}},
		{"\u00e9\n", 0, 2, answer{"\u00e9", 0, api.OK}},
		{"a\u00a0\n\u00a0b", 0, 2, answer{"a\u00a0 \u00a0b", 3, api.OK}},
		{"a\r\n\rb", 0, 2, answer{"a\r \rb", 2, api.OK}},
		{s, 3, 2, answer{e: api.ErrMove}}, {s, 3, 0, answer{e: api.ErrMove}}, {"", 0, 2, answer{e: api.ErrMove}}, {"a", 0, 1, answer{e: api.ErrMove}}, {"a\n", 1, 9, answer{e: api.ErrMove}},
		{s, 4, 2, answer{e: api.ErrArg}}, {s, -1, 2, answer{e: api.ErrArg}}, {"", 1, 2, answer{e: api.ErrArg}}, {"", -1, 2, answer{e: api.ErrArg}},
	} {
		holds(t, "Join", x.s, []int{x.k, x.n}, told(oper.Join(x.s, x.k, x.n)), x.want)
	}
}

// P23.5: all lines of all texts, and numbers beside them, with all counts, and far ones.
func TestJoinTexts(t *testing.T) {
	for _, s := range texts() {
		rows := strings.Count(s, "\n") + 1
		for k := -2; k <= rows+1; k++ {
			for n := -2; n <= rows+2; n++ {
				holds(t, "Join", s, []int{k, n}, told(oper.Join(s, k, n)), wantJoin(s, k, n))
			}
			for _, n := range far() {
				holds(t, "Join", s, []int{k, n}, told(oper.Join(s, k, n)), wantJoin(s, k, n))
			}
		}
		for _, k := range far() {
			holds(t, "Join", s, k, told(oper.Join(s, k, 2)), answer{e: api.ErrArg})
		}
	}
}

// holdsAll holds all operators against the chapter's words, for a range that may be.
func holdsAll(t *testing.T, s string, r api.Range) {
	t.Helper()
	holds(t, "Take", s, r, told(oper.Take(s, r)), wantTake(s, r))
	holds(t, "Clear", s, r, told(oper.Clear(s, r)), answer{s[:r.From] + s[r.To:], r.From, api.OK})
	for _, left := range []bool{false, true} {
		holds(t, "Shift", s, r, told(oper.Shift(s, r, left)), wantShift(s, r, left))
	}
	for how, f := range hows() {
		holds(t, "Case", s, r, told(oper.Case(s, r, how)), wantCase(s, r, f))
	}
}

// P23.1 to P23.4: all ranges that may be, of all texts; all others, from numbers in the text and beside it, are refused.
func TestAllRanges(t *testing.T) {
	for _, s := range texts() {
		may := ranges(s)
		for _, r := range may {
			holdsAll(t, s, r)
		}
		for p := -1; p <= len(s)+1; p++ {
			for q := -1; q <= len(s)+1; q++ {
				for _, whole := range []bool{false, true} {
					if r := (api.Range{From: p, To: q, Lines: whole}); !slices.Contains(may, r) {
						refused(t, s, r, api.ErrArg)
					}
				}
			}
		}
	}
}

// P23.1 to P23.4: far numbers are no places, wherever the other one is.
func TestFarRanges(t *testing.T) {
	for _, s := range []string{"", "\n", "ab\ncd"} {
		for _, p := range far() {
			for _, q := range append(far(), 0, len(s)) {
				for _, whole := range []bool{false, true} {
					refused(t, s, api.Range{From: p, To: q, Lines: whole}, api.ErrArg)
					refused(t, s, api.Range{From: q, To: p, Lines: whole}, api.ErrArg)
				}
			}
		}
	}
}

// P23.1 to P23.5: of what is not valid all is refused, also where what is wrong is in another line.
func TestNotValid(t *testing.T) {
	for _, s := range wrong() {
		if utf8.ValidString(s) {
			t.Fatalf("%q is valid", s)
		}
		for p := -1; p <= len(s)+1; p++ {
			for q := -1; q <= len(s)+1; q++ {
				refused(t, s, api.Range{From: p, To: q}, api.ErrArg)
				refused(t, s, api.Range{From: p, To: q, Lines: true}, api.ErrArg)
				holds(t, "Join", s, []int{p, q}, told(oper.Join(s, p, q)), answer{e: api.ErrArg})
			}
		}
	}
}

// P23.6: what was shifted is shifted back, with the same lines, tabs and blanks ahead or not.
func TestShiftedBack(t *testing.T) {
	for _, s := range texts() {
		n := strings.Count(s, "\n") + 1
		for first := range n {
			for last := first; last < n; last++ {
				there, _, _ := oper.Shift(s, lines(s, first, last), false)
				back, _, e := oper.Shift(there, lines(there, first, last), true)
				if back != s || e != api.OK {
					t.Fatalf("%q, %d to %d: %q, and %q, error %d", s, first, last, there, back, e)
				}
			}
		}
	}
}

// P23.6: longer texts of all kinds of runes: ranges of theirs, and lines joined.
func TestSome(t *testing.T) {
	random := rand.New(rand.NewSource(23))
	runes := []string{"a", "Z", " ", " ", "\t", "\n", "\n", ".", "\u00e9", "\u20ac", "\U0001f600"}
	for range 3000 {
		s := ""
		for range random.Intn(60) {
			s += runes[random.Intn(len(runes))]
		}
		all := ranges(s)
		for range 10 {
			holdsAll(t, s, all[random.Intn(len(all))])
			k, n := random.Intn(12)-1, random.Intn(12)
			holds(t, "Join", s, []int{k, n}, told(oper.Join(s, k, n)), wantJoin(s, k, n))
		}
	}
}

// An answer is new memory, also where nothing was done, or all that is left stands alone.
func TestAnswersAreNew(t *testing.T) {
	// Of a text that was made this way all that is not copied on purpose would be shared.
	s := strings.Repeat("1\n\n2.\n", 2)
	from := uintptr(unsafe.Pointer(unsafe.StringData(s)))
	apart := func(what string, text string, _ int, _ api.Errno) {
		t.Helper()
		at := uintptr(unsafe.Pointer(unsafe.StringData(text)))
		if text != "" && from < at+uintptr(len(text)) && at < from+uintptr(len(s)) {
			t.Errorf("%s: %q", what, text)
		}
	}
	take := func(r api.Range) (string, string, int, api.Errno) {
		text, p, e := oper.Take(s, r)
		return "Take", text, p, e
	}
	empty := func(r api.Range) (string, string, int, api.Errno) {
		text, p, e := oper.Clear(s, r)
		return "Clear", text, p, e
	}
	shift := func(r api.Range, left bool) (string, string, int, api.Errno) {
		text, p, e := oper.Shift(s, r, left)
		return "Shift", text, p, e
	}
	turn := func(r api.Range, how int) (string, string, int, api.Errno) {
		text, p, e := oper.Case(s, r, how)
		return "Case", text, p, e
	}
	for _, r := range ranges(s) {
		apart(take(r))
		apart(empty(r))
		apart(shift(r, false))
		apart(shift(r, true))
		apart(turn(r, 'U'))
	}
	for k := range 6 {
		text, p, e := oper.Join(s, k, 9)
		apart("Join", text, p, e)
	}
}

// What is told hangs on nothing that was asked ahead, be it refused or not.
func TestNothingIsKept(t *testing.T) {
	for _, other := range append(byHand(), wrong()...) {
		for _, r := range []api.Range{{To: len(other)}, {To: len(other), Lines: true}, {From: 1}, {From: -1}} {
			oper.Take(other, r)
			oper.Clear(other, r)
			oper.Shift(other, r, true)
			oper.Case(other, r, 'U')
		}
		oper.Join(other, 0, 9)
		const s = "aB\n \tc"
		holdsAll(t, s, api.Range{From: 1, To: 4})
		holdsAll(t, s, lines(s, 1, 1))
		refused(t, s, api.Range{From: 3, To: 1}, api.ErrArg)
		holds(t, "Join", s, 0, told(oper.Join(s, 0, 2)), answer{"aB c", 2, api.OK})
	}
}

// A text above MaxText has room for all but a shift, and none takes long.
func TestLong(t *testing.T) {
	const n = 100000
	s := strings.Repeat("a\n", n)
	all, half := lines(s, 0, n), lines(s, n/2, n)
	holds(t, "Take", "a, fed", all, told(oper.Take(s, all)), answer{})
	holds(t, "Take", "a, fed", half, told(oper.Take(s, half)), answer{s[:n-1], n - 2, api.OK})
	holds(t, "Clear", "a, fed", half, told(oper.Clear(s, half)), answer{s[:n], n, api.OK})
	holds(t, "Case", "a, fed", half, told(oper.Case(s, half, '~')), answer{s[:n] + strings.Repeat("A\n", n/2), n, api.OK})
	holds(t, "Shift", "a, fed", half, told(oper.Shift(s, half, false)), answer{e: api.ErrRoom})
	holds(t, "Shift", "a, fed", half, told(oper.Shift(s, half, true)), answer{e: api.ErrRoom})
	holds(t, "Join", "a, fed", n, told(oper.Join(s, 0, n)), answer{strings.TrimSuffix(strings.Repeat("a ", n), " ") + "\n", 2*n - 3, api.OK})
	holds(t, "Join", "a, fed", "all", told(oper.Join(s, 0, math.MaxInt)), answer{strings.TrimSuffix(strings.Repeat("a ", n), " "), 2*n - 2, api.OK})
}
