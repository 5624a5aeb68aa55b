package span_test

import (
	"math"
	"math/rand"
	"slices"
	"strings"
	"testing"
	"unicode/utf8"
	"unsafe"

	"calamus/api"
	"calamus/span"
)

// keys are those of the chapter, by their kinds.
func keys() map[int][]string {
	return map[int][]string{
		1: {"h", "l", "0", "^", "$", "|", "w", "b", "W", "B", "{", "}", "F", "T", "n", "N", "`"},
		2: {"e", "E", "f", "t", "%"},
		3: {"j", "k", "gg", "G", "'"},
	}
}

// texts are valid ones: all of up to some runes of one letter and line feeds, of longer runes with them, and some by hand.
func texts() []string {
	l := made([]string{"a", "\n"}, 7)
	l = append(l, made([]string{"\u00e9", "\n", "b"}, 4)...)
	l = append(l, made([]string{"\u20ac", "\U0001f600", "\n"}, 3)...)
	return append(l, byHand()...)
}

// byHand are texts as they are written.
func byHand() []string {
	return []string{
		"ab\ncd", "a\u00e9\n\nxyz", "one two\n  three\n\n\nfour\n", "\n\n\n", "\u20ac\n\U0001f600\n\u00e9\n",
		// What ends no line of layer 4, though it does elsewhere.
		"a\r\nb\r\n", "a\rb\vc\fd\u0085e\u2028f\u2029g", "a\x00\nb\x7f",
		// Runes with a byte that has the low bits of a line feed, or is one's own in other writings.
		"\u010a\n\u0a0a\u8a8a\n\u000b", "\ufffd\n\ufeff",
	}
}

// made are all texts of up to n of these runes.
func made(runes []string, n int) []string {
	l := []string{""}
	for from := 0; n > 0; n-- {
		to := len(l)
		for _, s := range l[from:to] {
			for _, r := range runes {
				l = append(l, s+r)
			}
		}
		from = to
	}
	return l
}

// wrong are bytes that are no valid texts, with lines ahead of what is wrong and behind it.
func wrong() []string {
	l := []string{
		"\xff", "\x80", "\xc3", "\xc3a", "\xe2\x82", "\xe2\x82\n", "\xf0\x9f\x98", "\xc0\x8a", "\xe0\x80\x8a", "\xed\xa0\x80", "\xf4\x90\x80\x80", "\u00e9\x80",
	}
	for _, s := range l {
		l = append(l, "ab\n"+s, s+"\nab", "a\n"+s+"\nb", "\n\n"+s, s+"\n\n")
	}
	return l
}

// far are numbers beyond all texts, from both ends of what a number can be.
func far() []int {
	return []int{math.MinInt, math.MinInt + 1, math.MinInt32, math.MaxInt32, 1 << 32, math.MaxInt - 1, math.MaxInt}
}

// around are all numbers from a little ahead of a text to a little behind it.
func around(t string) []int {
	l := []int{}
	for p := -2; p <= len(t)+2; p++ {
		l = append(l, p)
	}
	return l
}

// places are where a valid text's runes begin, and its end; none of another one.
func places(t string) []int {
	l := []int{}
	if !utf8.ValidString(t) {
		return l
	}
	for p := range t {
		l = append(l, p)
	}
	return append(l, len(t))
}

// row is a line: where it starts, and where it ends.
type row struct{ start, end int }

// rows are the lines of a text, by the library's own way through it.
func rows(t string) []row {
	l, at := []row{}, 0
	for _, s := range strings.Split(t, "\n") {
		l = append(l, row{at, at + len(s)})
		at += len(s) + 1
	}
	return l
}

// rowOf is the number of the line of a place.
func rowOf(l []row, p int) int {
	return slices.IndexFunc(l, func(r row) bool { return r.start <= p && p <= r.end })
}

// wantOf is what the chapter says of two places and a kind.
func wantOf(t string, p, q, kind int) (api.Range, bool) {
	all := places(t)
	if !slices.Contains(all, p) || !slices.Contains(all, q) {
		return api.Range{}, false
	}
	if q < p {
		p, q = q, p
	}
	l := rows(t)
	switch kind {
	case 1:
		return api.Range{From: p, To: q}, true
	case 2:
		if l[rowOf(l, q)].end > q {
			q = all[slices.Index(all, q)+1]
		}
		return api.Range{From: p, To: q}, true
	case 3:
		return api.Range{From: l[rowOf(l, p)].start, To: l[rowOf(l, q)].end, Lines: true}, true
	}
	return api.Range{}, false
}

// wantRight is what the chapter says of a range that may be.
func wantRight(t string, r api.Range) bool {
	all, l := places(t), rows(t)
	if !slices.Contains(all, r.From) || !slices.Contains(all, r.To) || r.From > r.To {
		return false
	}
	return !r.Lines || l[rowOf(l, r.From)].start == r.From && l[rowOf(l, r.To)].end == r.To
}

// wantLines is what the chapter says of a range's lines.
func wantLines(t string, r api.Range) (int, int) {
	if !wantRight(t, r) {
		return -1, -1
	}
	l := rows(t)
	first, last := rowOf(l, r.From), rowOf(l, r.To)
	if !r.Lines && r.To > r.From && l[last].start == r.To {
		last--
	}
	return first, last
}

// wantCut is what the chapter says is taken out with a range.
func wantCut(t string, r api.Range) api.Range {
	if !wantRight(t, r) {
		return api.Range{}
	}
	if !r.Lines {
		return r
	}
	if strings.HasPrefix(t[r.To:], "\n") {
		return api.Range{From: r.From, To: r.To + 1, Lines: true}
	}
	if strings.HasSuffix(t[:r.From], "\n") {
		return api.Range{From: r.From - 1, To: r.To, Lines: true}
	}
	return r
}

// goes holds Of against a range, or against none, from either place.
func goes(t *testing.T, s string, p, q, kind int, r api.Range, ok bool) {
	t.Helper()
	if got, found := span.Of(s, p, q, kind); got != r || found != ok {
		t.Errorf("Of(%q, %d, %d, %d): %v, %t, not %v, %t", s, p, q, kind, got, found, r, ok)
	}
	if got, found := span.Of(s, q, p, kind); got != r || found != ok {
		t.Errorf("Of(%q, %d, %d, %d): %v, %t, not %v, %t", s, q, p, kind, got, found, r, ok)
	}
}

// may holds what is told of a range that may be against what it is.
func may(t *testing.T, s string, r api.Range, text string, first, last int, cut api.Range) {
	t.Helper()
	if !span.Right(s, r) {
		t.Errorf("Right(%q, %v): false", s, r)
	}
	if got := span.Text(s, r); got != text {
		t.Errorf("Text(%q, %v): %q, not %q", s, r, got, text)
	}
	if a, b := span.Lines(s, r); a != first || b != last {
		t.Errorf("Lines(%q, %v): %d, %d, not %d, %d", s, r, a, b, first, last)
	}
	if got := span.Cut(s, r); got != cut {
		t.Errorf("Cut(%q, %v): %v, not %v", s, r, got, cut)
	}
}

// mayNot holds what is told of a range that may not be against nothing.
func mayNot(t *testing.T, s string, r api.Range) {
	t.Helper()
	if span.Right(s, r) {
		t.Errorf("Right(%q, %v): true", s, r)
	}
	if got := span.Text(s, r); got != "" {
		t.Errorf("Text(%q, %v): %q", s, r, got)
	}
	if a, b := span.Lines(s, r); a != -1 || b != -1 {
		t.Errorf("Lines(%q, %v): %d, %d", s, r, a, b)
	}
	if got := span.Cut(s, r); got != (api.Range{}) {
		t.Errorf("Cut(%q, %v): %v", s, r, got)
	}
}

// P22.1: the kinds' numbers, and the kinds of the motions' keys.
func TestKind(t *testing.T) {
	if span.Short != 1 || span.Long != 2 || span.Whole != 3 {
		t.Errorf("%d, %d, %d", span.Short, span.Long, span.Whole)
	}
	for kind, l := range keys() {
		for _, key := range l {
			if got := span.Kind(key); got != kind {
				t.Errorf("Kind(%q): %d, not %d", key, got, kind)
			}
		}
	}
}

// P22.1: all texts of one or two bytes, and some others, that are none of these keys have no kind.
func TestNoKind(t *testing.T) {
	has := map[string]int{}
	for kind, l := range keys() {
		for _, key := range l {
			has[key] = kind
		}
	}
	for a := range 256 {
		for b := range 256 {
			for _, key := range []string{string([]byte{byte(a)}), string([]byte{byte(a), byte(b)})} {
				if got := span.Kind(key); got != has[key] {
					t.Fatalf("Kind(%q): %d, not %d", key, got, has[key])
				}
			}
		}
	}
	for _, key := range []string{"", ";", ",", "g", "ggg", "gg ", " gg", "Gg", "line", "fx", "'a", "`a", "gU", "g-", "iw", "<lt>", "\xff", "\u00e9", "\uff48", "\u2019", "\x00h"} {
		if got := span.Kind(key); got != 0 {
			t.Errorf("Kind(%q): %d", key, got)
		}
	}
}

// P22.2: by hand, from either place: the chapter's example, and what stands at the greater place.
func TestOf(t *testing.T) {
	goes(t, "ab\ncd", 0, 3, span.Short, api.Range{To: 3}, true)
	goes(t, "ab\ncd", 0, 3, span.Long, api.Range{To: 4}, true)
	goes(t, "ab\ncd", 0, 3, span.Whole, api.Range{To: 5, Lines: true}, true)
	// a0 e1 (two bytes) feed3 feed4 x5 euro6 (three bytes) grin9 (four bytes); the end is at 13.
	const s = "a\u00e9\n\nx\u20ac\U0001f600"
	for _, x := range []struct{ p, q, long, from, to int }{
		{0, 0, 1, 0, 3}, {0, 1, 3, 0, 3}, {1, 1, 3, 0, 3}, {0, 3, 3, 0, 3}, {3, 3, 3, 0, 3}, {1, 4, 4, 0, 4}, {4, 4, 4, 4, 4}, {3, 5, 6, 0, 13},
		{4, 6, 9, 4, 13}, {5, 5, 6, 5, 13}, {6, 6, 9, 5, 13}, {6, 9, 13, 5, 13}, {9, 9, 13, 5, 13}, {9, 13, 13, 5, 13}, {13, 13, 13, 5, 13}, {0, 13, 13, 0, 13},
	} {
		goes(t, s, x.p, x.q, span.Short, api.Range{From: x.p, To: x.q}, true)
		goes(t, s, x.p, x.q, span.Long, api.Range{From: x.p, To: x.long}, true)
		goes(t, s, x.p, x.q, span.Whole, api.Range{From: x.from, To: x.to, Lines: true}, true)
	}
	// Of a text without bytes, and of the line behind a last line feed.
	for kind := span.Short; kind <= span.Whole; kind++ {
		goes(t, "", 0, 0, kind, api.Range{Lines: kind == span.Whole}, true)
		goes(t, "a\n", 2, 2, kind, api.Range{From: 2, To: 2, Lines: kind == span.Whole}, true)
	}
	goes(t, "a\n", 0, 2, span.Whole, api.Range{To: 2, Lines: true}, true)
	goes(t, "a\n", 0, 1, span.Whole, api.Range{To: 1, Lines: true}, true)
}

// P22.2, P22.6: from all numbers to all others, in all texts, by all kinds, whichever is first; what is told may be.
func TestOfTexts(t *testing.T) {
	for _, s := range texts() {
		for _, p := range around(s) {
			for _, q := range around(s) {
				for kind := -1; kind <= 5; kind++ {
					r, ok := wantOf(s, p, q, kind)
					goes(t, s, p, q, kind, r, ok)
					if got, found := span.Of(s, p, q, kind); found && !span.Right(s, got) {
						t.Errorf("Of(%q, %d, %d, %d): %v, which may not be", s, p, q, kind, got)
					}
				}
			}
		}
		if t.Failed() {
			t.FailNow()
		}
	}
}

// P22.2: of what is no place, be it one of both or both, there is nothing: ahead of the text, behind it, inside a rune.
func TestOfNoPlace(t *testing.T) {
	const s = "a\u00e9\n\U0001f600"
	nowhere := append(far(), -1, 2, 5, 6, 7, 9)
	for _, kind := range []int{span.Short, span.Long, span.Whole} {
		for _, p := range nowhere {
			for _, q := range append(places(s), nowhere...) {
				goes(t, s, p, q, kind, api.Range{}, false)
				goes(t, "", p, q, kind, api.Range{}, false)
			}
		}
	}
}

// P22.2: there are no other kinds.
func TestOfNoKind(t *testing.T) {
	for _, kind := range append(far(), -3, -2, -1, 0, 4, 5, 6, 257, 258, 259, 'h', 'j') {
		for _, s := range append(byHand(), "", "a") {
			goes(t, s, 0, len(s), kind, api.Range{}, false)
			goes(t, s, 0, 0, kind, api.Range{}, false)
		}
	}
}

// P22.2 to P22.5: of what is not valid nothing is told, not even where what is wrong is in another line.
func TestNotValid(t *testing.T) {
	for _, s := range wrong() {
		if utf8.ValidString(s) {
			t.Fatalf("%q is valid", s)
		}
		for _, p := range around(s) {
			for _, q := range around(s) {
				for kind := span.Short; kind <= span.Whole; kind++ {
					goes(t, s, p, q, kind, api.Range{}, false)
				}
				mayNot(t, s, api.Range{From: p, To: q})
				mayNot(t, s, api.Range{From: p, To: q, Lines: true})
			}
		}
	}
}

// P22.3 to P22.5: by hand, ranges that are not whole lines: they are cut as they are, and a line at whose start they end is none of theirs.
func TestRanges(t *testing.T) {
	// a0 e1 (two bytes) feed3 feed4 x5 y6 feed7; the end is at 8, where the fourth line is.
	const s = "a\u00e9\n\nxy\n"
	for _, x := range []struct {
		from, to    int
		text        string
		first, last int
	}{
		{0, 0, "", 0, 0}, {0, 1, "a", 0, 0}, {0, 3, "a\u00e9", 0, 0}, {1, 3, "\u00e9", 0, 0}, {3, 3, "", 0, 0},
		{0, 4, "a\u00e9\n", 0, 0}, {3, 4, "\n", 0, 0}, {0, 5, "a\u00e9\n\n", 0, 1}, {3, 5, "\n\n", 0, 1}, {0, 6, "a\u00e9\n\nx", 0, 2},
		// Where nothing is in the range its line is that at whose start it stands.
		{4, 4, "", 1, 1}, {5, 5, "", 2, 2}, {8, 8, "", 3, 3},
		{4, 5, "\n", 1, 1}, {4, 6, "\nx", 1, 2}, {5, 7, "xy", 2, 2}, {5, 8, "xy\n", 2, 2}, {7, 8, "\n", 2, 2}, {0, 8, s, 0, 2},
	} {
		r := api.Range{From: x.from, To: x.to}
		may(t, s, r, x.text, x.first, x.last, r)
	}
	may(t, "", api.Range{}, "", 0, 0, api.Range{})
	may(t, "ab", api.Range{To: 2}, "ab", 0, 0, api.Range{To: 2})
}

// P22.3 to P22.5: by hand, whole lines: cut with the line feed behind, else with that ahead, else alone; the last one is theirs, empty or not.
func TestWholeLines(t *testing.T) {
	const s = "a\u00e9\n\nxy\n"
	for _, x := range []struct {
		from, to       int
		text           string
		first, last    int
		cutFrom, cutTo int
	}{
		{0, 3, "a\u00e9", 0, 0, 0, 4}, {0, 4, "a\u00e9\n", 0, 1, 0, 5}, {0, 7, "a\u00e9\n\nxy", 0, 2, 0, 8}, {4, 4, "", 1, 1, 4, 5}, {4, 7, "\nxy", 1, 2, 4, 8},
		{5, 7, "xy", 2, 2, 5, 8}, {5, 8, "xy\n", 2, 3, 4, 8}, {4, 8, "\nxy\n", 1, 3, 3, 8}, {8, 8, "", 3, 3, 7, 8}, {0, 8, s, 0, 3, 0, 8},
	} {
		may(t, s, api.Range{From: x.from, To: x.to, Lines: true}, x.text, x.first, x.last, api.Range{From: x.cutFrom, To: x.cutTo, Lines: true})
	}
	may(t, "", api.Range{Lines: true}, "", 0, 0, api.Range{Lines: true})
	may(t, "ab", api.Range{To: 2, Lines: true}, "ab", 0, 0, api.Range{To: 2, Lines: true})
	may(t, "\n", api.Range{Lines: true}, "", 0, 0, api.Range{To: 1, Lines: true})
	may(t, "\n", api.Range{From: 1, To: 1, Lines: true}, "", 1, 1, api.Range{To: 1, Lines: true})
	may(t, "\n", api.Range{To: 1, Lines: true}, "\n", 0, 1, api.Range{To: 1, Lines: true})
	// A carriage return ends no line.
	may(t, "a\r\nb", api.Range{To: 2, Lines: true}, "a\r", 0, 0, api.Range{To: 3, Lines: true})
	mayNot(t, "a\r\nb", api.Range{To: 1, Lines: true})
	mayNot(t, "a\rb", api.Range{From: 2, To: 3, Lines: true})
}

// P22.3 to P22.5: by hand, ranges that may not be: no places, the wrong way round, and lines that are not whole.
func TestWrongRanges(t *testing.T) {
	const s = "a\u00e9\n\nxy\n"
	for _, r := range []api.Range{{From: 2, To: 3}, {From: 0, To: 2}, {From: 2, To: 2}, {From: -1, To: 3}, {From: 0, To: 9}, {From: 9, To: 9}, {From: -1, To: -1}, {From: 1, To: 0}, {From: 8, To: 7}, {From: 5, To: 4}, {From: 9, To: -1}} {
		mayNot(t, s, r)
		r.Lines = true
		mayNot(t, s, r)
	}
	for _, r := range []api.Range{{From: 1, To: 3}, {From: 3, To: 3}, {From: 3, To: 4}, {From: 6, To: 7}, {From: 7, To: 8}, {From: 0, To: 0}, {From: 0, To: 1}, {From: 0, To: 5}, {From: 4, To: 5}, {From: 4, To: 6}, {From: 5, To: 5}, {From: 5, To: 6}, {From: 1, To: 6}} {
		r.Lines = true
		mayNot(t, s, r)
	}
	for _, p := range far() {
		for _, q := range append(far(), 0, 4, len(s)) {
			for _, lines := range []bool{false, true} {
				for _, s := range []string{s, "", "\n"} {
					mayNot(t, s, api.Range{From: p, To: q, Lines: lines})
					mayNot(t, s, api.Range{From: q, To: p, Lines: lines})
				}
			}
		}
	}
}

// P22.3 to P22.5: all ranges, whole lines and others, of all texts.
func TestAllRanges(t *testing.T) {
	for _, s := range texts() {
		for _, p := range around(s) {
			for _, q := range around(s) {
				holds(t, s, api.Range{From: p, To: q})
				holds(t, s, api.Range{From: p, To: q, Lines: true})
			}
		}
		if t.Failed() {
			t.FailNow()
		}
	}
}

// holds holds what is told of a range against the chapter's words.
func holds(t *testing.T, s string, r api.Range) {
	t.Helper()
	if !wantRight(s, r) {
		mayNot(t, s, r)
		return
	}
	first, last := wantLines(s, r)
	may(t, s, r, s[r.From:r.To], first, last, wantCut(s, r))
}

// P22.2 to P22.6: longer texts, put together by chance.
func TestLonger(t *testing.T) {
	chance := rand.New(rand.NewSource(22))
	runes := []string{"\n", "\n", "\n\n", "\r\n", " ", "\t", "a", "b_1", "\u00e9", "\u20ac", "\U0001f600", ",", "+-"}
	for range 3000 {
		s := ""
		for range chance.Intn(60) {
			s += runes[chance.Intn(len(runes))]
		}
		l := places(s)
		p, q := l[chance.Intn(len(l))], l[chance.Intn(len(l))]
		for kind := span.Short; kind <= span.Whole; kind++ {
			r, ok := wantOf(s, p, q, kind)
			goes(t, s, p, q, kind, r, ok)
			holds(t, s, r)
		}
		holds(t, s, api.Range{From: chance.Intn(len(s) + 1), To: chance.Intn(len(s) + 1), Lines: chance.Intn(2) == 0})
		without(t, s)
	}
}

// without holds a text without what is cut with each of its ranges of whole lines against the other lines, of which there is always one.
func without(t *testing.T, s string) {
	t.Helper()
	l := rows(s)
	for first := range l {
		for last := first; last < len(l); last++ {
			r := api.Range{From: l[first].start, To: l[last].end, Lines: true}
			cut := span.Cut(s, r)
			a, b := span.Lines(s, r)
			left := s[:cut.From] + s[cut.To:]
			others := strings.Join(slices.Delete(strings.Split(s, "\n"), first, last+1), "\n")
			if n := max(len(l)-(b-a+1), 1); left != others || strings.Count(left, "\n")+1 != n {
				t.Errorf("%q without %v: %q, not %q, and not %d lines", s, r, left, others, n)
			}
		}
	}
}

// P22.6: without what Cut tells of whole lines there are just the other ones.
func TestWithout(t *testing.T) {
	for _, s := range texts() {
		without(t, s)
	}
}

// P22.6: what is cut of any range leaves a text that is valid.
func TestLeftIsValid(t *testing.T) {
	for _, s := range texts() {
		for _, p := range around(s) {
			for _, q := range around(s) {
				for _, lines := range []bool{false, true} {
					if cut := span.Cut(s, api.Range{From: p, To: q, Lines: lines}); !utf8.ValidString(s[:cut.From] + s[cut.To:]) {
						t.Errorf("%q, %d, %d, %t: %v", s, p, q, lines, cut)
					}
				}
			}
		}
	}
}

// An answer is new memory: a text that is told lies elsewhere than that of which it is, as a part of it and as all of it.
func TestAnswersAreNew(t *testing.T) {
	// Of a text that was made this way all that is not copied on purpose would be shared.
	s := strings.Repeat("a\u00e9\n\nxy\n", 2)
	from := uintptr(unsafe.Pointer(unsafe.StringData(s)))
	for _, p := range places(s) {
		for _, q := range places(s) {
			for _, lines := range []bool{false, true} {
				text := span.Text(s, api.Range{From: p, To: q, Lines: lines})
				at := uintptr(unsafe.Pointer(unsafe.StringData(text)))
				if text != "" && from < at+uintptr(len(text)) && at < from+uintptr(len(s)) {
					t.Errorf("%d, %d, %t: %q", p, q, lines, text)
				}
			}
		}
	}
}

// What is told hangs on nothing that was asked ahead.
func TestNothingIsKept(t *testing.T) {
	for _, other := range append(byHand(), wrong()...) {
		for kind := -1; kind <= 4; kind++ {
			span.Of(other, 0, len(other), kind)
		}
		for _, r := range []api.Range{{To: len(other)}, {To: len(other), Lines: true}, {From: 1}, {From: -1}} {
			span.Right(other, r)
			span.Text(other, r)
			span.Lines(other, r)
			span.Cut(other, r)
		}
		span.Kind(other)
		goes(t, "ab\ncd", 4, 1, span.Long, api.Range{From: 1, To: 5}, true)
		may(t, "ab\ncd", api.Range{From: 3, To: 5, Lines: true}, "cd", 1, 1, api.Range{From: 2, To: 5, Lines: true})
		mayNot(t, "ab\ncd", api.Range{From: 1, To: 5, Lines: true})
	}
}

// A long text: of one line, and of many.
func TestLong(t *testing.T) {
	const n = 100000
	run := strings.Repeat("\u20ac", n)
	goes(t, run, 0, 3*n-3, span.Short, api.Range{To: 3*n - 3}, true)
	goes(t, run, 0, 3*n-3, span.Long, api.Range{To: 3 * n}, true)
	goes(t, run, 3, 6, span.Whole, api.Range{To: 3 * n, Lines: true}, true)
	may(t, run, api.Range{To: 3 * n, Lines: true}, run, 0, 0, api.Range{To: 3 * n, Lines: true})
	feeds := strings.Repeat("a\n", n)
	goes(t, feeds, 2*n, 1, span.Whole, api.Range{To: 2 * n, Lines: true}, true)
	may(t, feeds, api.Range{To: 2 * n}, feeds, 0, n-1, api.Range{To: 2 * n})
	may(t, feeds, api.Range{To: 2 * n, Lines: true}, feeds, 0, n, api.Range{To: 2 * n, Lines: true})
	may(t, feeds, api.Range{From: 2*n - 2, To: 2 * n, Lines: true}, "a\n", n-1, n, api.Range{From: 2*n - 3, To: 2 * n, Lines: true})
}
