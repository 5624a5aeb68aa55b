package look_test

import (
	"math"
	"math/rand"
	"slices"
	"strings"
	"testing"
	"unicode/utf8"

	"calamus/look"
)

// made are all texts of up to n of these runes.
func made(runes []string, n int) []string {
	l := []string{""}
	for from := 0; n > 0; n-- {
		to := len(l)
		for _, s := range l[from:to] {
			for _, r := range runes {
				l = append(l, s+r)
			}
		}
		from = to
	}
	return l
}

// two is a text and a pattern.
type two struct{ t, pat string }

// both are valid texts with patterns: all short ones of some runes, and some by hand.
func both() []two {
	var l []two
	for _, x := range []struct {
		runes   []string
		n, most int
	}{
		{[]string{"a"}, 9, 10}, {[]string{"a", "b"}, 7, 4}, {[]string{"a", "b", "\n"}, 4, 3},
		// Runes that have bytes in common: C3 A9, C2 A9, C3 A8, E2 82 AC, E2 82 A9.
		{[]string{"\u00e9", "\u00a9", "\u00e8", "\u20ac", "\u20a9"}, 3, 2},
		{[]string{"\U0001f600", "\U0001f601", "\ufffd", " "}, 3, 2},
	} {
		for _, t := range made(x.runes, x.n) {
			for _, pat := range made(x.runes, x.most)[1:] {
				l = append(l, two{t, pat})
			}
		}
	}
	for _, t := range byHand() {
		for _, pat := range patterns() {
			l = append(l, two{t, pat})
		}
	}
	return l
}

// byHand are texts as they are written.
func byHand() []string {
	return []string{
		"", "aaa aa", "ab ab\n\u00e9ab", "abcabcab", "one two one\ntwo one", "aab\naab\r\n\naab\x00", "\n\n\n", "\u00e9\u00e9\u00e9\u20ac\U0001f600\u00e9", "e\u0301\u00e9E", "\ufffd\ufffd a\ufffd",
		".*a.b^c$[a](b)a+a?a\\a|%a", "A aA Ab AB", " a\ta  a", "\x00\x00a\x00", "a\u2028b\u2028", strings.Repeat("ab", 20) + "a",
	}
}

// patterns are some, of which each of the texts by hand has one or more, or none.
func patterns() []string {
	return []string{
		"a", "aa", "ab", "aba", "abcab", "one", "two one", "one\ntwo", "\n", "\n\n", "\r\n", "\x00", "\x00\x00", "\u00e9", "\u00e9\u00e9", "\u0301", "\u20ac\U0001f600", "\ufffd", ".", ".*", "a.b", "^", "$", "[a]", "(b)", "a+", "a?", "\\a", "|", "%a", "A", "AB", " ", "  ", "\t", "\u2028", "x", "aaa aa", "aaa aab", strings.Repeat("ab", 20) + "a", strings.Repeat("ab", 20) + "ab",
	}
}

// wrong are bytes that are no valid texts, alone and beside what is valid.
func wrong() []string {
	l := []string{
		"\xff", "\x80", "\xc3", "\xa9", "\xc3a", "\xe2\x82", "\xe2\x82\n", "\xf0\x9f\x98", "\xc1\xa1", "\xe0\x81\xa1", "\xed\xa0\x80", "\xf4\x90\x80\x80", "\u00e9\x80",
	}
	for _, s := range l {
		l = append(l, "a"+s, s+"a", "aa\n"+s+"\naa", "a"+s+"\u00e9a")
	}
	return l
}

// far are numbers beyond all texts, from both ends of what a number can be.
func far() []int {
	return []int{math.MinInt, math.MinInt + 1, math.MinInt32, math.MaxInt32, 1 << 32, math.MaxInt - 1, math.MaxInt}
}

// places are where a valid text's runes begin, and its end.
func places(t string) []int {
	l := []int{}
	for p := range t {
		l = append(l, p)
	}
	return append(l, len(t))
}

// wantAll is what the chapter says of All: each offset from which on the pattern's bytes are there.
func wantAll(t, pat string) []int {
	var l []int
	for at := 0; at+len(pat) <= len(t); at++ {
		if t[at:at+len(pat)] == pat {
			l = append(l, at)
		}
	}
	return l
}

// once is what the chapter says of one step, past the ends of some offsets.
func once(l []int, p int, back bool) int {
	left := slices.DeleteFunc(slices.Clone(l), func(q int) bool { return !back && q <= p || back && q >= p })
	if len(left) == 0 {
		left = l
	}
	if back {
		return slices.Max(left)
	}
	return slices.Min(left)
}

// wantNext is what the chapter says of n steps; of more than some, all the ways round that lead to the same offset are left out.
func wantNext(l []int, p int, back bool, n int) (int, bool) {
	if len(l) == 0 {
		return 0, false
	}
	p = once(l, p, back)
	if n < 1 {
		return p, true
	}
	for n = (n - 1) % len(l); n > 0; n-- {
		p = once(l, p, back)
	}
	return p, true
}

// tells holds Next against an offset, or against none.
func tells(t *testing.T, s string, p int, pat string, back bool, n, to int, ok bool) {
	t.Helper()
	if got, is := look.Next(s, p, pat, back, n); got != to || is != ok {
		t.Errorf("Next(%q, %d, %q, %t, %d): %d, %t, not %d, %t", s, p, pat, back, n, got, is, to, ok)
	}
}

// none holds Next, on and back, against none.
func none(t *testing.T, s string, p int, pat string) {
	t.Helper()
	for _, n := range []int{math.MinInt, -1, 0, 1, 2, 3, math.MaxInt} {
		tells(t, s, p, pat, false, n, 0, false)
		tells(t, s, p, pat, true, n, 0, false)
	}
}

// stands holds All against offsets.
func stands(t *testing.T, s, pat string, l ...int) {
	t.Helper()
	if got := look.All(s, pat); !slices.Equal(got, l) {
		t.Errorf("All(%q, %q): %v, not %v", s, pat, got, l)
	}
}

// P20.1: All by hand: offsets rise, may lie over one another, and are of bytes as they are.
func TestAll(t *testing.T) {
	stands(t, "aaa aa", "aa", 0, 1, 4)
	stands(t, "aaaa", "aa", 0, 1, 2)
	stands(t, "abababa", "aba", 0, 2, 4)
	stands(t, "ab ab\n\u00e9ab", "ab", 0, 3, 8)
	stands(t, "aba", "aba", 0)
	stands(t, "ab", "aba")
	stands(t, "b", "a")
	stands(t, "", "a")
	// At both ends, over lines, and beside longer runes.
	stands(t, "\na\n\n", "\n", 0, 2, 3)
	stands(t, "a\nb\na\nb", "a\nb", 0, 4)
	stands(t, "\u00e9a\u20aca\U0001f600a", "a", 2, 6, 11)
	stands(t, "\u00e9\u20ac\U0001f600\u00e9", "\u00e9", 0, 9)
	// Great and small runes are others, signs are only themselves, and what looks alike is not the same.
	stands(t, "aA", "A", 1)
	stands(t, "abc", "a.c")
	stands(t, "a.c", ".", 1)
	stands(t, "a*", "a*", 0)
	stands(t, "\u00e9", "e\u0301")
	stands(t, "\u00e9", "\u00a9")
	stands(t, "a\x00b\x00", "\x00", 1, 3)
	stands(t, "a  b", "  ", 1)
	stands(t, "\u00e9\ufffd", "\ufffd", 2)
}

// P20.2: Next by hand: on and back, once and more often, past both ends, from offsets, between them and from the text's end.
func TestNext(t *testing.T) {
	// a0 a1 a2 blank3 a4 a5; the end is at 6.
	const s = "aaa aa"
	for _, x := range []struct{ p, n, on, back int }{
		{0, 1, 1, 4}, {1, 1, 4, 0}, {2, 1, 4, 1}, {3, 1, 4, 1}, {4, 1, 0, 1}, {5, 1, 0, 4}, {6, 1, 0, 4},
		{0, 2, 4, 1}, {1, 2, 0, 4}, {2, 2, 0, 0}, {4, 2, 1, 0}, {6, 2, 1, 1},
		{0, 3, 0, 0}, {1, 3, 1, 1}, {2, 3, 1, 4}, {4, 3, 4, 4}, {6, 3, 4, 0},
		{0, 4, 1, 4}, {2, 4, 4, 1}, {6, 4, 0, 4}, {6, 7, 0, 4}, {6, 3000000, 4, 0},
		{0, 0, 1, 4}, {2, 0, 4, 1}, {2, -1, 4, 1}, {4, -2, 0, 1}, {6, math.MinInt, 0, 4},
		// 2^63 - 1 is 1 more than a number of times 3, 2^63 - 2 none more.
		{0, math.MaxInt, 1, 4}, {4, math.MaxInt, 0, 1}, {0, math.MaxInt - 1, 0, 0}, {6, math.MaxInt - 1, 4, 0},
	} {
		tells(t, s, x.p, "aa", false, x.n, x.on, true)
		tells(t, s, x.p, "aa", true, x.n, x.back, true)
	}
	// What stands but once is found from everywhere, as often as it may be, also from itself.
	for _, p := range []int{0, 1, 3, 4, 5} {
		for _, n := range []int{0, 1, 2, 99, math.MaxInt} {
			tells(t, "a\u00e9b\n", p, "b", false, n, 3, true)
			tells(t, "a\u00e9b\n", p, "b", true, n, 3, true)
		}
	}
	tells(t, "a", 0, "a", false, 1, 0, true)
	tells(t, "a", 1, "a", true, 1, 0, true)
	// What begins ahead of a place and ends behind it is ahead of it.
	tells(t, "xabx", 2, "ab", false, 1, 1, true)
	tells(t, "xabxab", 2, "ab", true, 1, 1, true)
}

// P20.1, P20.2: of all short texts, from each place, with each count up to beyond all offsets, and far ones.
func TestShort(t *testing.T) {
	for _, x := range both() {
		l := wantAll(x.t, x.pat)
		stands(t, x.t, x.pat, l...)
		for _, p := range places(x.t) {
			for n := -1; n <= 2*len(l)+2; n++ {
				for _, back := range []bool{false, true} {
					to, ok := wantNext(l, p, back, n)
					tells(t, x.t, p, x.pat, back, n, to, ok)
				}
			}
		}
	}
}

// P20.2: counts from both ends of what a number can be.
func TestFarCounts(t *testing.T) {
	for _, s := range byHand() {
		for _, pat := range patterns() {
			l := wantAll(s, pat)
			for _, p := range places(s) {
				for _, n := range far() {
					for _, back := range []bool{false, true} {
						to, ok := wantNext(l, p, back, n)
						tells(t, s, p, pat, back, n, to, ok)
					}
				}
			}
		}
	}
}

// P20.1, P20.2: of longer texts, made of few runes, so that much is found.
func TestLonger(t *testing.T) {
	r := rand.New(rand.NewSource(20))
	runes := []string{"a", "a", "b", "\n", "\u00e9", "\u20ac", "\U0001f600"}
	some := func(most int) string {
		s := ""
		for range r.Intn(most) {
			s += runes[r.Intn(len(runes))]
		}
		return s
	}
	for range 2000 {
		s := some(80)
		// A part of the text is a pattern that stands in it.
		from := places(s)[r.Intn(utf8.RuneCountInString(s)+1)]
		for _, pat := range []string{"a" + some(3), s[from:], "\u00e9", "aa"} {
			if pat == "" {
				continue
			}
			l := wantAll(s, pat)
			stands(t, s, pat, l...)
			for _, p := range places(s) {
				n, back := r.Intn(2*len(l)+2), r.Intn(2) == 0
				to, ok := wantNext(l, p, back, n)
				tells(t, s, p, pat, back, n, to, ok)
			}
		}
	}
}

// P20.1, P20.2: the empty text is no pattern.
func TestEmptyPattern(t *testing.T) {
	for _, s := range append(byHand(), wrong()...) {
		stands(t, s, "")
		for p := -1; p <= len(s)+1; p++ {
			none(t, s, p, "")
		}
	}
}

// P20.1, P20.2: what is not valid is no pattern, not even where its bytes are there.
func TestNotValidPattern(t *testing.T) {
	for _, pat := range wrong() {
		if utf8.ValidString(pat) {
			t.Fatalf("%q is valid", pat)
		}
		for _, s := range append(byHand(), "\u00e9\u20ac\U0001f600a", "\ufffd"+strings.ToValidUTF8(pat, "\ufffd"), pat, pat+pat, "a"+pat+"b") {
			stands(t, s, pat)
			for _, p := range places(s) {
				none(t, s, p, pat)
			}
		}
	}
}

// P20.1, P20.2: in what is not valid nothing stands, not even ahead of what is wrong.
func TestNotValidText(t *testing.T) {
	for _, s := range wrong() {
		for _, pat := range []string{"a", "aa", "\u00e9", "\ufffd", "\n"} {
			stands(t, s, pat)
			for p := -1; p <= len(s)+1; p++ {
				none(t, s, p, pat)
			}
		}
	}
}

// P20.2: from what is no place there is nothing: ahead of the text, behind it, inside a rune.
func TestNoPlace(t *testing.T) {
	const s = "a\u00e9a\u20aca\U0001f600a\n"
	for p := -3; p <= len(s)+3; p++ {
		if slices.Contains(places(s), p) {
			continue
		}
		for _, pat := range []string{"a", "\u00e9", "\u20ac", "\U0001f600", "\n", "x"} {
			none(t, s, p, pat)
		}
	}
	for _, p := range far() {
		none(t, s, p, "a")
		none(t, "", p, "a")
		none(t, "a", p, "a")
	}
}

// P20.2: what stands nowhere is not found, from no place.
func TestNowhere(t *testing.T) {
	const s = "ab\u00e9\nab"
	for _, pat := range []string{"x", "ba", "AB", "abab", "ab\n", "\u00e8", "\u00a9", "\ufffd", s + "\n", "\n" + s} {
		stands(t, s, pat)
		for _, p := range places(s) {
			none(t, s, p, pat)
		}
		none(t, "", 0, pat)
	}
}

// P20.3: from each offset as many steps as there are lead to it again, and fewer lead elsewhere; a step back undoes one on.
func TestRound(t *testing.T) {
	for _, x := range both() {
		l := look.All(x.t, x.pat)
		for _, p := range l {
			for _, back := range []bool{false, true} {
				tells(t, x.t, p, x.pat, back, len(l), p, true)
				tells(t, x.t, p, x.pat, back, 2*len(l), p, true)
				for n := 1; n < len(l); n++ {
					if to, ok := look.Next(x.t, p, x.pat, back, n); !ok || to == p {
						t.Errorf("Next(%q, %d, %q, %t, %d): %d, %t", x.t, p, x.pat, back, n, to, ok)
					}
				}
				to, _ := look.Next(x.t, p, x.pat, back, 1)
				tells(t, x.t, to, x.pat, !back, 1, p, true)
			}
		}
	}
}

// An answer is new memory, and what is told hangs on nothing that was asked ahead.
func TestNothingIsKept(t *testing.T) {
	const s = "aaa aa"
	first := look.All(s, "aa")
	for i := range first {
		first[i] = -1
	}
	_ = append(first, -1)
	for _, other := range append(byHand(), wrong()...) {
		look.All(other, "a")
		look.Next(other, len(other), "a", true, 2)
		look.Next(s, 0, other, false, 3)
		stands(t, s, "aa", 0, 1, 4)
		tells(t, s, 4, "aa", false, 1, 0, true)
		tells(t, s, 0, "aa", true, 1, 4, true)
	}
}

// A long text: with many offsets, with a long pattern, and with one that nearly stands everywhere.
func TestLong(t *testing.T) {
	const n = 100000
	s := strings.Repeat("\u20aca", n)
	if l := look.All(s, "a"); len(l) != n || l[0] != 3 || l[n-1] != 4*n-1 {
		t.Errorf("All: %d offsets", len(l))
	}
	tells(t, s, 4*n, "a", false, n, 4*n-1, true)
	tells(t, s, 4*n, "a", true, n, 3, true)
	tells(t, s, 0, "a", false, n+1, 3, true)
	same := strings.Repeat("a", n)
	if l := look.All(same, same[:n/2]); len(l) != n/2+1 || l[n/2] != n/2 {
		t.Errorf("All: %d offsets", len(l))
	}
	stands(t, same+"b", same[:n/2]+"b", n/2)
	tells(t, same+"b", 0, same[:n/2]+"b", true, 5, n/2, true)
}
