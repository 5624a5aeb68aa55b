package seek_test

import (
	"math"
	"math/rand"
	"slices"
	"strings"
	"testing"
	"unicode/utf8"

	"calamus/api"
	"calamus/seek"
)

// kinds are the letters of finds.
func kinds() []int {
	return []int{'f', 'F', 't', 'T'}
}

// find puts a find together.
func find(kind int, r string) api.Find {
	return api.Find{Kind: kind, Rune: r}
}

// sought are the runes that are looked for: of one to four bytes, some with the same last bytes, and one that is nowhere.
func sought() []string {
	return []string{"a", "\t", "\u00a9", "\u00e9", "\u20a9", "\U0001f600", "z"}
}

// texts are valid ones: all of up to three runes of all kinds, all of up to five of a few, and some by hand.
func texts() []string {
	return append(append(made([]string{"a", " ", "\t", "\n", "\u00a9", "\u00e9", "\u20a9", "\U0001f600"}, 3), made([]string{"a", "b", "\u00e9", "\n"}, 5)...),
		"xaba\u00e9a\na", "abcab", "aaaaaaaa", "aa\naaa\n\naaaa\n", "\n\n\n", "a\n\na", "\u00e9\u00a9\u20a9\u00e9\u00a9\u20a9\n\u20a9\u00a9\u00e9",
		// What ends no line of layer 4, though it does elsewhere.
		"a\ra\r\na\va\fa\x00a", "a\u0085a\u2028a\u2029a",
		// Runes with a byte that differs from a line feed's, an a's by its high bit alone.
		"\u010aa\u0121a\u00e1a\u208aa\n\u00e1\u010aa",
		"\ufffda\ufffd\u00e9\ufffd",
	)
}

// made are all texts of up to n of these runes.
func made(runes []string, n int) []string {
	l := []string{""}
	for from := 0; n > 0; n-- {
		to := len(l)
		for _, s := range l[from:to] {
			for _, r := range runes {
				l = append(l, s+r)
			}
		}
		from = to
	}
	return l
}

// wrong are bytes that are no valid texts.
func wrong() []string {
	l := []string{
		"\xff", "\x80", "\xc3", "\xc3a", "\xe2\x82", "\xe2\x82\n", "\xf0\x9f\x98", "\xc0\x8a", "\xc1\xa1", "\xed\xa0\x80", "\xf4\x90\x80\x80", "\u00e9\x80",
	}
	for _, s := range l {
		l = append(l, "aaa\naaa"+s, s+"aaa\naaa", "aaa\n\n"+s+"\naaa", s+"\n", "\n"+s)
	}
	return l
}

// far are numbers beyond all texts, from both ends of what a number can be.
func far() []int {
	return []int{math.MinInt, math.MinInt + 1, math.MinInt32, math.MaxInt32, 1 << 32, math.MaxInt - 1, math.MaxInt}
}

// counts are those from below 1 to above all runes of a text, and far ones.
func counts(s string) []int {
	l := far()
	for n := -1; n <= utf8.RuneCountInString(s)+2; n++ {
		l = append(l, n)
	}
	return l
}

// places are where a valid text's runes begin, and its end.
func places(t string) []int {
	l := []int{}
	for p := range t {
		l = append(l, p)
	}
	return append(l, len(t))
}

// row is the line of p, as the places of its runes and its end.
func row(t string, p int) []int {
	at, k := 0, strings.Count(t[:p], "\n")
	for i, s := range strings.Split(t, "\n") {
		if i == k {
			l := places(s)
			for j := range l {
				l[j] += at
			}
			return l
		}
		at += len(s) + 1
	}
	return nil
}

// want is what the chapter says: the line is gone through place by place, and the runes are counted. -1, if there are not so many.
func want(t string, p, kind int, r string, n int) int {
	l := row(t, p)
	end := len(l) - 1
	i, step, beside := slices.Index(l, p), 1, -1
	if kind == 'F' || kind == 'T' {
		step, beside = -1, 1
	}
	for n = max(n, 1); n > 0; {
		i += step
		if i < 0 || i >= end {
			return -1
		}
		if t[l[i]:l[i+1]] == r {
			n--
		}
	}
	if kind == 't' || kind == 'T' {
		i += beside
	}
	return l[i]
}

// leads holds Go against a target, or against none, if that is -1.
func leads(t *testing.T, s string, p int, f api.Find, n, to int) {
	t.Helper()
	got, ok := seek.Go(s, p, f, n)
	if ok != (to >= 0) || got != max(to, 0) {
		t.Errorf("Go(%q, %d, %c %q, %d): %d, %t, not %d", s, p, f.Kind, f.Rune, n, got, ok, to)
	}
}

// try is a call by hand: the place, the count; the target, or -1, if there is none.
type try struct{ p, n, to int }

// hand holds calls of one find in one text against what they tell.
func hand(t *testing.T, s string, kind rune, r string, l ...try) {
	t.Helper()
	for _, x := range l {
		leads(t, s, x.p, find(int(kind), r), x.n, x.to)
	}
}

// P16.2: f by hand: where the rune begins, behind the place and not at it, in its line alone, and only if there are so many.
func TestOn(t *testing.T) {
	// x is at 0, a at 1, 3, 6 and 8, the line feed at 7, the text's end at 9.
	const s = "xaba\u00e9a\na"
	hand(t, s, 'f', "a",
		try{0, 0, 1}, try{0, 1, 1}, try{0, 2, 3}, try{0, 3, 6}, try{0, 4, -1}, try{0, 99, -1}, try{1, 0, 3}, try{1, 1, 3}, try{1, 2, 6}, try{1, 3, -1}, try{2, 1, 3},
		try{3, 1, 6}, try{4, 1, 6}, try{6, 0, -1}, try{6, 1, -1}, try{7, 0, -1}, try{7, 1, -1}, try{8, 1, -1}, try{9, 1, -1},
		try{0, -1, 1}, try{0, math.MinInt, 1}, try{0, math.MaxInt, -1}, try{6, math.MinInt, -1},
	)
	hand(t, s, 'f', "\u00e9", try{0, 1, 4}, try{3, 1, 4}, try{4, 1, -1}, try{0, 2, -1})
	hand(t, s, 'f', "x", try{0, 1, -1}, try{1, 1, -1}, try{8, 1, -1})
	hand(t, s, 'f', "z", try{0, 1, -1}, try{8, 1, -1})
}

// P16.2: F by hand: where the rune begins, ahead of the place and not at it, from a line's end as well.
func TestBack(t *testing.T) {
	const s = "xaba\u00e9a\na"
	hand(t, s, 'F', "a",
		try{7, 0, 6}, try{7, 1, 6}, try{7, 2, 3}, try{7, 3, 1}, try{7, 4, -1}, try{7, 99, -1}, try{6, 0, 3}, try{6, 1, 3}, try{6, 2, 1}, try{6, 3, -1}, try{4, 1, 3},
		try{3, 1, 1}, try{2, 1, 1}, try{1, 1, -1}, try{0, 0, -1}, try{0, 1, -1}, try{8, 1, -1}, try{9, 0, 8}, try{9, 1, 8}, try{9, 2, -1},
		try{7, -1, 6}, try{7, math.MinInt, 6}, try{7, math.MaxInt, -1}, try{8, math.MinInt, -1},
	)
	hand(t, s, 'F', "\u00e9", try{7, 1, 4}, try{6, 1, 4}, try{4, 1, -1}, try{7, 2, -1}, try{9, 1, -1})
	hand(t, s, 'F', "x", try{7, 1, 0}, try{1, 1, 0}, try{0, 1, -1}, try{8, 1, -1})
	hand(t, s, 'F', "z", try{7, 1, -1}, try{9, 1, -1})
}

// P16.2: t by hand: the place of the rune ahead of that which f tells, which may be the place itself, of one to four bytes.
func TestShortOfIt(t *testing.T) {
	const s = "xaba\u00e9a\na"
	hand(t, s, 't', "a",
		try{0, 0, 0}, try{0, 1, 0}, try{0, 2, 2}, try{0, 3, 4}, try{0, 4, -1}, try{1, 1, 2}, try{2, 1, 2}, try{2, 2, 4}, try{3, 1, 4}, try{4, 1, 4}, try{6, 1, -1}, try{7, 1, -1}, try{8, 1, -1}, try{9, 1, -1},
		try{0, -1, 0}, try{0, math.MinInt, 0}, try{0, math.MaxInt, -1},
	)
	hand(t, s, 't', "\u00e9", try{0, 1, 3}, try{3, 1, 3}, try{4, 1, -1})
	hand(t, "\u20ac\U0001f600a", 't', "a", try{0, 1, 3}, try{3, 1, 3}, try{7, 1, -1})
	hand(t, "\u20ac\U0001f600a", 't', "\U0001f600", try{0, 1, 0}, try{3, 1, -1})
	hand(t, "aa", 't', "a", try{0, 1, 0}, try{0, 2, -1}, try{1, 1, -1})
}

// P16.2: T by hand: the place behind the rune that F tells, which may be the place itself, of one to four bytes.
func TestShortOfItBack(t *testing.T) {
	const s = "xaba\u00e9a\na"
	hand(t, s, 'T', "a",
		try{7, 0, 7}, try{7, 1, 7}, try{7, 2, 4}, try{7, 3, 2}, try{7, 4, -1}, try{6, 1, 4}, try{6, 2, 2}, try{4, 1, 4}, try{3, 1, 2}, try{2, 1, 2}, try{1, 1, -1}, try{0, 1, -1}, try{8, 1, -1}, try{9, 1, 9},
		try{7, -1, 7}, try{7, math.MinInt, 7}, try{7, math.MaxInt, -1},
	)
	hand(t, s, 'T', "\u00e9", try{7, 1, 6}, try{6, 1, 6}, try{4, 1, -1})
	hand(t, "\u20ac\U0001f600a", 'T', "\u20ac", try{8, 1, 3}, try{7, 1, 3}, try{3, 1, 3}, try{0, 1, -1})
	hand(t, "\u20ac\U0001f600a", 'T', "\U0001f600", try{8, 1, 7}, try{7, 1, 7}, try{3, 1, -1})
	hand(t, "aa", 'T', "a", try{1, 1, 1}, try{2, 1, 2}, try{2, 2, 1}, try{0, 1, -1})
}

// P16.2: the chapter's example, the empty text, and lines without runes.
func TestExample(t *testing.T) {
	hand(t, "abcab", 'f', "b", try{0, 2, 4})
	hand(t, "abcab", 't', "b", try{0, 2, 3})
	for _, kind := range kinds() {
		hand(t, "", rune(kind), "a", try{0, 0, -1}, try{0, 1, -1}, try{0, math.MaxInt, -1})
		hand(t, "a\n\na", rune(kind), "a", try{2, 0, -1}, try{2, 1, -1}, try{2, 9, -1})
	}
}

// P16.2: all finds, from all places, with all counts, in all texts.
func TestGo(t *testing.T) {
	for _, s := range texts() {
		for _, p := range places(s) {
			for _, kind := range kinds() {
				for _, r := range sought() {
					for _, n := range counts(s) {
						// A far count is as one just above all that there is.
						leads(t, s, p, find(kind, r), n, want(s, p, kind, r, min(n, len(s)+5)))
					}
				}
			}
		}
		if t.Failed() {
			t.FailNow()
		}
	}
}

// P16.2: longer texts, put together by chance.
func TestLonger(t *testing.T) {
	r := rand.New(rand.NewSource(16))
	for range 3000 {
		s := ""
		for range r.Intn(80) {
			s += append(sought(), "\n", "b")[r.Intn(9)]
		}
		l := places(s)
		p := l[r.Intn(len(l))]
		for _, kind := range kinds() {
			for _, x := range sought() {
				for n := range 5 {
					leads(t, s, p, find(kind, x), n, want(s, p, kind, x, n))
				}
			}
		}
	}
}

// P16.2: each rune of one byte, but the line feed, is found as itself, and none as another one.
func TestAllBytes(t *testing.T) {
	for a := range 128 {
		for b := range 128 {
			s, r := "-"+string(rune(a))+"-", string(rune(b))
			if a == '\n' || b == '\n' || b == '-' {
				continue
			}
			on, back := -1, -1
			if a == b {
				on, back = 1, 1
			}
			hand(t, s, 'f', r, try{0, 1, on})
			hand(t, s, 'F', r, try{3, 1, back})
		}
	}
}

// P16.2: from what is no place nothing is found: ahead of the text, behind it, inside a rune.
func TestNoPlace(t *testing.T) {
	const s = "a\u00e9a\u20aca\n\U0001f600a"
	for _, kind := range kinds() {
		for _, p := range append(far(), -2, -1, 2, 5, 6, 10, 11, 12, 15, 16) {
			for _, r := range []string{"a", "\u00e9", "\u20ac", "\U0001f600"} {
				for _, n := range []int{-1, 0, 1, 2} {
					leads(t, s, p, find(kind, r), n, -1)
				}
			}
		}
		for _, p := range []int{-1, 1, 2} {
			leads(t, "", p, find(kind, "a"), 1, -1)
		}
	}
}

// P16.2: in what is not valid nothing is found, not even where what is wrong is in another line.
func TestNotValid(t *testing.T) {
	for _, s := range wrong() {
		if utf8.ValidString(s) {
			t.Fatalf("%q is valid", s)
		}
		for p := -1; p <= len(s)+1; p++ {
			for _, kind := range kinds() {
				for _, r := range []string{"a", "\u00e9", "\ufffd", "\xff", "\x80"} {
					leads(t, s, p, find(kind, r), 1, -1)
				}
			}
		}
	}
}

// noKinds are numbers that are no letters of finds.
func noKinds() []int {
	l := far()
	for k := -300; k <= 300; k++ {
		l = append(l, k)
	}
	for _, k := range kinds() {
		l = append(l, k+256, k+1<<16, k+1<<32, k-1<<32, -k, ^k, k<<8)
	}
	return slices.DeleteFunc(l, func(k int) bool { return slices.Contains(kinds(), k) })
}

// noRunes are texts that are no runes of finds: none, the line feed, several, and bytes that are not valid.
func noRunes() []string {
	l := append(wrong(), "", "\n", "ab", "aa", "a\n", "\na", "\n\n", "\r\n", "\u00e9a", "a\u00e9", "e\u0301", "\u00e9\u00e9", "a\x80", "\u20ac\xac", "<Tab>", "\xc0\x80", "\xe0\x81\xa1", "\xf0\x80\x81\xa1", "\xf5\x80\x80\x80")
	for b := 0x80; b < 256; b++ {
		l = append(l, string([]byte{byte(b)}))
	}
	// What would be a rune from D800 to DFFF.
	for r := 0xD800; r < 0xE000; r++ {
		l = append(l, string([]byte{0xED, byte(0x80 | r>>6&0x3F), byte(0x80 | r&0x3F)}))
	}
	return l
}

// not holds all calls of a find that may not be against what they tell.
func not(t *testing.T, f api.Find) {
	t.Helper()
	if seek.Right(f) || seek.Turn(f) != (api.Find{}) {
		t.Errorf("%d %q may be", f.Kind, f.Rune)
	}
	for _, p := range []int{0, 3, 7} {
		leads(t, "abaabaa", p, f, 1, -1)
		leads(t, "ab"+f.Rune+"baa", p, f, 0, -1)
	}
}

// P16.1, P16.2, P16.3: what may not be: it leads nowhere, and the other way is the zero find.
func TestNotRight(t *testing.T) {
	not(t, api.Find{})
	for _, k := range noKinds() {
		for _, r := range []string{"a", "b", "\u00e9", "", "\n"} {
			not(t, find(k, r))
		}
	}
	for _, k := range kinds() {
		for _, r := range noRunes() {
			not(t, find(k, r))
		}
		// A line feed stands in the text, but is no rune of a find.
		leads(t, "a\nb\nc", 2, find(k, "\n"), 1, -1)
	}
}

// P16.1, P16.3: all runes but the line feed may be, also those that are no keys.
func TestRight(t *testing.T) {
	for x := range rune(utf8.MaxRune + 1) {
		if !utf8.ValidRune(x) || x == '\n' {
			continue
		}
		for _, k := range kinds() {
			f := find(k, string(x))
			if !seek.Right(f) || seek.Turn(seek.Turn(f)) != f {
				t.Fatalf("%c %q may not be", f.Kind, f.Rune)
			}
		}
	}
}

// P16.3: f and F change, t and T, and the rune stays.
func TestTurn(t *testing.T) {
	for _, r := range []string{"a", " ", "\x00", "\r", "f", "T", "\u00e9", "\u20ac", "\U0001f600", "\ufffd"} {
		for from, to := range map[int]int{'f': 'F', 'F': 'f', 't': 'T', 'T': 't'} {
			if f := seek.Turn(find(from, r)); f != find(to, r) {
				t.Errorf("Turn(%c %q): %c %q", from, r, f.Kind, f.Rune)
			}
		}
	}
}

// P16.4: what f leads to from such a rune F leads back from, and the other way round; t and T lead beside it.
func TestBackAgain(t *testing.T) {
	for _, s := range texts() {
		for p, x := range s {
			if x == '\n' {
				continue
			}
			f := find('f', string(x))
			for _, f := range []api.Find{f, seek.Turn(f)} {
				for n := 1; n <= len(s); n++ {
					to, ok := seek.Go(s, p, f, n)
					if !ok {
						break
					}
					leads(t, s, to, seek.Turn(f), n, p)
				}
			}
		}
	}
}

// P16.4: n times one find is that find once, n times, and a target is a place of the line.
func TestTimes(t *testing.T) {
	for _, s := range texts() {
		for _, p := range places(s) {
			for _, f := range []api.Find{find('f', "a"), find('F', "a"), find('f', "\u00e9"), find('F', "\u00e9")} {
				for n, at, ok := 1, p, true; ok && n <= len(s)+1; n++ {
					at, ok = seek.Go(s, at, f, 1)
					if ok && !slices.Contains(row(s, p), at) {
						t.Errorf("Go(%q, %d, %c %q, %d): %d", s, p, f.Kind, f.Rune, n, at)
					}
					if !ok {
						at = -1
					}
					leads(t, s, p, f, n, at)
				}
			}
		}
	}
}

// What is told hangs on nothing that was asked ahead.
func TestNothingIsKept(t *testing.T) {
	const s = "xaba\u00e9a\na"
	for _, other := range []api.Find{find('T', "b"), find('g', "a"), find('f', "\n")} {
		seek.Go("\n"+s, 5, other, 2)
		seek.Go("\xff", 0, other, 1)
		seek.Right(other)
		seek.Turn(other)
		for _, kind := range kinds() {
			leads(t, s, 3, find(kind, "a"), 1, want(s, 3, kind, "a", 1))
		}
	}
}

// A long line, of many such runes and of none, in a long text, and counts that are far above it.
func TestLong(t *testing.T) {
	const n = 300000
	many := strings.Repeat("a\u20ac", n)
	hand(t, many, 'f', "\u20ac", try{0, 1, 1}, try{0, n, 4*n - 3}, try{0, n + 1, -1}, try{0, math.MaxInt, -1})
	hand(t, many, 'F', "\u20ac", try{4 * n, 1, 4*n - 3}, try{4 * n, n, 1}, try{4 * n, n + 1, -1})
	hand(t, many, 't', "\u20ac", try{0, 1, 0}, try{0, n, 4*n - 4})
	hand(t, many, 'T', "\u20ac", try{4 * n, 1, 4 * n}, try{4 * n, n, 4})
	hand(t, many, 'f', "z", try{0, 1, -1}, try{4, math.MaxInt, -1})
	lines := many + "\n" + many + "\n" + many
	hand(t, lines, 'f', "a", try{4*n + 1, n - 1, 8*n - 3}, try{4*n + 1, n, -1})
	hand(t, lines, 'F', "a", try{8*n + 1, n, 4*n + 1}, try{8*n + 1, n + 1, -1})
}
