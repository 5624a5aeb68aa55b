package sub_test

import (
	"math"
	"math/rand"
	"strings"
	"testing"
	"time"
	"unicode/utf8"
	"unsafe"

	"calamus/api"
	"calamus/sub"
)

// answer is what Swap tells.
type answer struct {
	text string
	at   int
	e    api.Errno
}

// swapped is Swap's answer.
func swapped(t string, first, last int, pat, rep string, all bool) answer {
	s, p, e := sub.Swap(t, first, last, pat, rep, all)
	return answer{s, p, e}
}

// made are all texts of up to n of these runes.
func made(n int, runes ...string) []string {
	l := []string{""}
	for from := 0; n > 0; n-- {
		to := len(l)
		for _, s := range l[from:to] {
			for _, r := range runes {
				l = append(l, s+r)
			}
		}
		from = to
	}
	return l
}

// wrong are bytes that are no valid texts, with and without lines around.
func wrong() []string {
	l := []string{"\xff", "\x80", "\xc3", "\xc3a", "\xe2\x82", "\xe2\x82\n", "\xf0\x9f\x98", "\xc0\x8a", "\xe0\x80\x8a", "\xed\xa0\x80", "\xf4\x90\x80\x80", "\u00e9\x80"}
	for _, s := range l {
		l = append(l, "a"+s, s+"a", "a\n"+s, s+"\na", "a\n"+s+"\na")
	}
	return l
}

// far are numbers beyond all lines, from both ends of what a number can be.
func far() []int {
	return []int{math.MinInt, math.MinInt + 1, math.MinInt32, -2, -1, math.MaxInt32, 1 << 32, math.MaxInt - 1, math.MaxInt}
}

// plain tells whether a text is valid and has no line feed.
func plain(s string) bool { return utf8.ValidString(s) && !strings.Contains(s, "\n") }

// there tells whether lines are there.
func there(t string, first, last int) bool {
	return utf8.ValidString(t) && 0 <= first && first <= last && last <= strings.Count(t, "\n")
}

// wantRange is what the chapter says: as many bytes as the lines ahead have with their line feeds, and as these have with those between them.
func wantRange(t string, first, last int) (api.Range, bool) {
	if !there(t, first, last) {
		return api.Range{}, false
	}
	r := api.Range{Lines: true}
	for k, s := range strings.SplitAfter(t, "\n") {
		if k < first {
			r.From += len(s)
		}
		if k < last {
			r.To += len(s)
		}
		if k == last {
			r.To += len(strings.TrimSuffix(s, "\n"))
		}
	}
	return r, true
}

// exchange is a line with rep in the place of pat, gone byte by byte, and how often that was put in: once, or, with all, wherever it stands.
func exchange(s, pat, rep string, all bool) (string, int) {
	out, n := []byte{}, 0
	for s != "" {
		if strings.HasPrefix(s, pat) && (all || n == 0) {
			out, s = append(out, rep...), s[len(pat):]
			n++
			continue
		}
		out, s = append(out, s[0]), s[1:]
	}
	return string(out), n
}

// wantCount is what the chapter says, line by line.
func wantCount(t string, first, last int, pat string) int {
	if !there(t, first, last) || !plain(pat) || pat == "" {
		return 0
	}
	sum := 0
	for _, s := range strings.Split(t, "\n")[first : last+1] {
		_, n := exchange(s, pat, "", true)
		sum += n
	}
	return sum
}

// first is where the first rune of a line is that is neither a blank nor a tab, or the line's last one, or its start.
func first(t string, k int) int {
	rows := strings.Split(t, "\n")
	start := len(strings.Join(rows[:k], "\n"))
	if k > 0 {
		start++
	}
	s := rows[k]
	if rest := strings.TrimLeft(s, " \t"); rest != "" {
		return start + len(s) - len(rest)
	}
	return start + max(len(s)-1, 0)
}

// wantSwap is what the chapter says, line by line.
func wantSwap(t string, a, b int, pat, rep string, all bool) answer {
	if !there(t, a, b) || !plain(pat) || pat == "" || !plain(rep) {
		return answer{e: api.ErrArg}
	}
	rows := strings.Split(t, "\n")
	last := -1
	for k := a; k <= b; k++ {
		n := 0
		if rows[k], n = exchange(rows[k], pat, rep, all); n > 0 {
			last = k
		}
	}
	if last < 0 {
		return answer{e: api.ErrNone}
	}
	s := strings.Join(rows, "\n")
	if len(s) > 4096 {
		return answer{e: api.ErrRoom}
	}
	return answer{s, first(s, last), api.OK}
}

// holdsSwap holds Swap against the chapter's words, of the first in each line and of all.
func holdsSwap(t *testing.T, s string, a, b int, pat, rep string) {
	t.Helper()
	for _, all := range []bool{false, true} {
		if got, want := swapped(s, a, b, pat, rep, all), wantSwap(s, a, b, pat, rep, all); got != want {
			t.Fatalf("Swap(%.200q, %d, %d, %q, %.200q, %v): %.200q, %d, error %d, not %.200q, %d, error %d", s, a, b, pat, rep, all, got.text, got.at, got.e, want.text, want.at, want.e)
		}
	}
}

// holds holds all functions against the chapter's words.
func holds(t *testing.T, s string, a, b int, pat, rep string) {
	t.Helper()
	r, ok := sub.Range(s, a, b)
	if want, is := wantRange(s, a, b); r != want || ok != is {
		t.Fatalf("Range(%q, %d, %d): %v, %v, not %v, %v", s, a, b, r, ok, want, is)
	}
	if got, want := sub.Count(s, a, b, pat), wantCount(s, a, b, pat); got != want {
		t.Fatalf("Count(%q, %d, %d, %q): %d, not %d", s, a, b, pat, got, want)
	}
	holdsSwap(t, s, a, b, pat, rep)
}

// P28.1: by hand: of a line, of several, of empty ones, and of what is not there.
func TestRange(t *testing.T) {
	// a0 b1 feed2 feed3 euro4 feed7 blank8 feed9; the end is at 10.
	const s = "ab\n\n\u20ac\n \n"
	for _, x := range []struct {
		a, b int
		want api.Range
		ok   bool
	}{
		{0, 0, api.Range{From: 0, To: 2, Lines: true}, true},
		{0, 1, api.Range{From: 0, To: 3, Lines: true}, true},
		{1, 1, api.Range{From: 3, To: 3, Lines: true}, true},
		{1, 2, api.Range{From: 3, To: 7, Lines: true}, true},
		{2, 2, api.Range{From: 4, To: 7, Lines: true}, true},
		{3, 3, api.Range{From: 8, To: 9, Lines: true}, true},
		{4, 4, api.Range{From: 10, To: 10, Lines: true}, true},
		{0, 4, api.Range{From: 0, To: 10, Lines: true}, true},
		{2, 4, api.Range{From: 4, To: 10, Lines: true}, true},
		{1, 0, api.Range{}, false}, {4, 3, api.Range{}, false}, {0, 5, api.Range{}, false}, {5, 5, api.Range{}, false}, {-1, 0, api.Range{}, false}, {-1, -1, api.Range{}, false}, {0, -1, api.Range{}, false}, {5, 4, api.Range{}, false},
	} {
		if r, ok := sub.Range(s, x.a, x.b); r != x.want || ok != x.ok {
			t.Errorf("Range(%d, %d): %v, %v", x.a, x.b, r, ok)
		}
	}
	if r, ok := sub.Range("", 0, 0); r != (api.Range{Lines: true}) || !ok {
		t.Errorf("Range of nothing: %v, %v", r, ok)
	}
}

// P28.2: by hand: offsets behind the bytes that stood ahead of them, in lines alone.
func TestCount(t *testing.T) {
	const s = "aXa\nb\na aa\n\naaa\u00e9\na"
	for _, x := range []struct {
		a, b int
		pat  string
		want int
	}{
		{0, 0, "a", 2}, {0, 2, "a", 5}, {0, 5, "a", 9}, {1, 1, "a", 0}, {3, 3, "a", 0}, {1, 3, "a", 3}, {4, 5, "a", 4},
		// What was found is not looked through again.
		{2, 2, "aa", 1}, {4, 4, "aa", 1}, {0, 5, "aa", 2}, {4, 4, "aaa", 1}, {0, 5, "aaaa", 0},
		{0, 5, "\u00e9", 1}, {0, 5, "a\u00e9", 1}, {0, 5, " ", 1}, {0, 5, "x", 0}, {0, 5, "X", 1}, {0, 5, ".", 0}, {0, 5, "a*", 0},
		// Neither beyond the lines, nor across a line's end.
		{0, 0, "aXab", 0}, {1, 1, "b", 1}, {0, 5, "ab", 0}, {0, 5, "\n", 0}, {0, 5, "a\n", 0}, {0, 5, "a\nb", 0},
		{0, 5, "", 0}, {0, 5, "\xff", 0}, {0, 5, "\xc3", 0}, {0, 5, "\xa9", 0}, {0, 6, "a", 0}, {1, 0, "a", 0}, {-1, 5, "a", 0}, {6, 6, "a", 0},
	} {
		if got := sub.Count(s, x.a, x.b, x.pat); got != x.want {
			t.Errorf("Count(%d, %d, %q): %d", x.a, x.b, x.pat, got)
		}
	}
	if n := sub.Count("a\xff", 0, 0, "a"); n != 0 {
		t.Errorf("Count of what is not valid: %d", n)
	}
}

// P28.3: by hand, with the chapter's example.
func TestSwap(t *testing.T) {
	for _, x := range []struct {
		s        string
		a, b     int
		pat, rep string
		all      bool
		want     answer
	}{
		{"aXa\nb\na", 0, 2, "a", "", false, answer{"Xa\nb\n", 5, api.OK}},
		{"aXa\nb\na", 0, 2, "a", "", true, answer{"X\nb\n", 4, api.OK}},
		{"aXa\nb\na", 0, 1, "a", "", true, answer{"X\nb\na", 0, api.OK}},
		{"aXa\nb\na", 1, 2, "a", "cc", false, answer{"aXa\nb\ncc", 6, api.OK}},
		{"aXa\nb\na", 1, 1, "a", "c", true, answer{e: api.ErrNone}},
		// What was put in is not looked through, nor what was found.
		{"aaa", 0, 0, "a", "aa", true, answer{"aaaaaa", 0, api.OK}},
		{"aaa", 0, 0, "aa", "a", true, answer{"aa", 0, api.OK}},
		{"aaa", 0, 0, "aa", "b", false, answer{"ba", 0, api.OK}},
		{"aab", 0, 0, "ab", "", true, answer{"a", 0, api.OK}},
		{"aabb", 0, 0, "ab", "", true, answer{"ab", 0, api.OK}},
		{"ababa", 0, 0, "aba", "x", true, answer{"xba", 0, api.OK}},
		// Also if it is as it was.
		{"b a\na\nb", 0, 2, "a", "a", true, answer{"b a\na\nb", 4, api.OK}},
		// First is that of the last line, as it is then; it may be empty, or blanks alone.
		{"  a\n  a a", 0, 1, "a", "bb", false, answer{"  bb\n  bb a", 7, api.OK}},
		{"a\n  a", 0, 1, "a", "", true, answer{"\n  ", 2, api.OK}},
		{"a\na\n\n", 0, 3, "a", "", true, answer{"\n\n\n", 1, api.OK}},
		{" \ta", 0, 0, "\t", " ", true, answer{"  a", 2, api.OK}},
		{"ab", 0, 0, "a", "  ", true, answer{"  b", 2, api.OK}},
		{"a", 0, 0, "a", "", true, answer{"", 0, api.OK}},
		{"a", 0, 0, "a", "\t\t", true, answer{"\t\t", 1, api.OK}},
		{" a\u00e9", 0, 0, "a", "", true, answer{" \u00e9", 1, api.OK}},
		{"\u00e9a", 0, 0, "\u00e9", "\u20ac", true, answer{"\u20aca", 0, api.OK}},
		// A pattern is bytes as they are.
		{"a.c abc", 0, 0, "a.c", "$0", true, answer{"$0 abc", 0, api.OK}},
		{"a\\n&", 0, 0, "\\n", "&", true, answer{"a&&", 0, api.OK}},
		{"aA", 0, 0, "A", "b", true, answer{"ab", 0, api.OK}},
		{"a\rb\r\nb", 0, 1, "\r", "", true, answer{"ab\nb", 0, api.OK}},
		{"a\x00b", 0, 0, "\x00", "-", true, answer{"a-b", 0, api.OK}},
		// It goes to a line's end, and not across it.
		{"ab\nab", 0, 1, "b", "", false, answer{"a\na", 2, api.OK}},
		{"ab\nab", 0, 0, "b", "", false, answer{"a\nab", 0, api.OK}},
		{"ab\nab", 1, 1, "b", "", false, answer{"ab\na", 3, api.OK}},
		{"ab\nab", 0, 1, "ba", "", false, answer{e: api.ErrNone}},
		{"", 0, 0, "a", "b", true, answer{e: api.ErrNone}},
	} {
		if got := swapped(x.s, x.a, x.b, x.pat, x.rep, x.all); got != x.want {
			t.Errorf("%+v: %q, %d, error %d", x, got.text, got.at, got.e)
		}
	}
}

// P28.3: what may not be is told ahead of what stands nowhere, and that ahead of what has no room.
func TestErrors(t *testing.T) {
	const s = "ab\nab"
	long := strings.Repeat("b", 5000)
	for _, x := range []struct {
		s        string
		a, b     int
		pat, rep string
		e        api.Errno
	}{
		{s, 0, 2, "a", "b", api.ErrArg}, {s, 1, 0, "a", "b", api.ErrArg}, {s, -1, 1, "a", "b", api.ErrArg}, {s, 2, 2, "a", "b", api.ErrArg}, {s, -1, -1, "a", "b", api.ErrArg},
		{s + "\xff", 0, 0, "a", "b", api.ErrArg}, {"\xff", 0, 0, "\xff", "b", api.ErrArg}, {"a\xa9", 0, 0, "a", "b", api.ErrArg},
		{s, 0, 1, "", "b", api.ErrArg}, {s, 0, 1, "\n", "b", api.ErrArg}, {s, 0, 1, "b\na", "b", api.ErrArg}, {s, 0, 1, "a\n", "b", api.ErrArg}, {s, 0, 1, "\xff", "b", api.ErrArg}, {"\u00e9", 0, 0, "\xc3", "b", api.ErrArg},
		{s, 0, 1, "a", "\n", api.ErrArg}, {s, 0, 1, "a", "b\n", api.ErrArg}, {s, 0, 1, "a", "\xff", api.ErrArg}, {s, 0, 1, "a", "b\xc3", api.ErrArg},
		// Nothing stands there, and what is to be put in may not be, or is too long.
		{s, 0, 1, "x", "\n", api.ErrArg}, {s, 0, 1, "x", long + "\xff", api.ErrArg}, {s, 0, 2, "x", long, api.ErrArg}, {s, 0, 1, "", long, api.ErrArg},
		{s, 0, 1, "x", long, api.ErrNone}, {long, 0, 0, "a", "", api.ErrNone}, {long, 0, 0, "a", long, api.ErrNone},
		{s, 0, 1, "a", long, api.ErrRoom}, {long, 0, 0, "b", "b", api.ErrRoom}, {s, 0, 1, "a", long + "\n", api.ErrArg},
	} {
		for _, all := range []bool{false, true} {
			if got := swapped(x.s, x.a, x.b, x.pat, x.rep, all); got != (answer{e: x.e}) {
				t.Errorf("%.50q, %d, %d, %q, %.50q: %.50q, %d, error %d", x.s, x.a, x.b, x.pat, x.rep, got.text, got.at, got.e)
			}
		}
	}
}

// P28.3: a text may have MaxText bytes, and no more; what goes is counted, and what stands beside the lines.
func TestRoom(t *testing.T) {
	full := strings.Repeat("x", 4096)
	for _, x := range []struct{ s, pat, rep string }{
		{full, "x", "y"}, {full + "x", "x", "y"}, {full[1:] + "a", "a", "b"}, {full[1:] + "a", "a", "bb"}, {full[2:] + "a", "a", "bb"}, {full[2:] + "a", "a", "bbb"},
		{full + "a", "a", ""}, {full + "aa", "a", ""}, {full + "aab", "a", ""}, {full + "ab", "ab", ""}, {full + "ab", "ab", "c"}, {full[1:] + "ab", "ab", "c"},
		{full[4:] + "a\n\na", "a", "b"}, {full[4:] + "a\n\na", "a", "bb"}, {full[6:] + "a\n\na", "a", "bb"}, {full[5:] + "a\n\na", "a", "bb"},
		{strings.Repeat("a", 2048), "a", "bb"}, {strings.Repeat("a", 2049), "a", "bb"}, {"a", "a", full}, {"a", "a", full + "b"}, {"aa", "a", full}, {"\na", "a", full}, {"\na", "a", full[1:]},
		{strings.Repeat("a\n", 2048), "a", ""}, {strings.Repeat("a\n", 4096), "a", ""}, {strings.Repeat("a\n", 4097), "a", ""}, {strings.Repeat("\n", 4095) + "a", "a", "b"}, {strings.Repeat("\n", 4096) + "a", "a", "b"},
		{strings.Repeat("\u20ac", 4096), "\u20ac", "e"}, {strings.Repeat("\u20ac", 4097), "\u20ac", "e"}, {strings.Repeat("\u20ac", 1365) + "e", "e", "\u00e9"},
	} {
		n := strings.Count(x.s, "\n")
		holdsSwap(t, x.s, 0, n, x.pat, x.rep)
		holdsSwap(t, x.s, n, n, x.pat, x.rep)
		holdsSwap(t, x.s, 0, 0, x.pat, x.rep)
	}
}

// P28.1 to P28.3: all lines of all short texts, there and not, all short patterns, and what is put in their place.
func TestAllShort(t *testing.T) {
	pats := []string{"a", "b", "aa", "ab", "ba", "aba", "x", "", "\n", "a\n", "\xff"}
	reps := []string{"", "a", "b", "aa", "ba", "xyz", "\n", "a\xff"}
	for _, s := range made(6, "a", "b", "\n") {
		n := strings.Count(s, "\n")
		for a := -1; a <= n+1; a++ {
			for b := -1; b <= n+1; b++ {
				if !there(s, a, b) {
					holds(t, s, a, b, "a", "b")
					continue
				}
				for _, pat := range pats {
					for _, rep := range reps {
						holds(t, s, a, b, pat, rep)
					}
				}
			}
		}
	}
}

// P28.3: blanks and tabs, ahead of what else is in a line, behind what was put in, and alone.
func TestAllBlanks(t *testing.T) {
	for _, s := range made(6, "a", " ", "\n") {
		n := strings.Count(s, "\n")
		for _, pat := range []string{"a", " ", "a ", " a", "  "} {
			for _, rep := range []string{"", " ", "\t", "b", " b", "\t\t"} {
				holds(t, s, 0, n, pat, rep)
				holds(t, s, 0, 0, pat, rep)
				holds(t, s, n, n, pat, rep)
			}
		}
	}
}

// P28.1 to P28.3: runes of several bytes, some of which share theirs.
func TestLongRunes(t *testing.T) {
	runes := []string{"\u00e9", "\u00e8", "\u20ac", "\U0001f600", "\u010a", "\n"}
	pats := append(made(2, runes...), "\xc3", "\xa9", "\xe2\x82", "\x82\xac")
	for _, s := range made(4, runes...) {
		n := strings.Count(s, "\n")
		for _, pat := range pats {
			holds(t, s, 0, n, pat, "\u00e9")
			holds(t, s, n, n, pat, "")
		}
	}
}

// P28.1 to P28.3: bytes that are no valid text have no lines, are no pattern, and may not be put in.
func TestWrong(t *testing.T) {
	for _, s := range wrong() {
		for k := range strings.Count(s, "\n") + 2 {
			holds(t, s, k, k, "a", "b")
			holds(t, s, 0, k, "a", "b")
			holds(t, s, k, k, s, "b")
		}
		for _, pat := range wrong() {
			holds(t, s, 0, 0, pat, "b")
		}
		holds(t, "a\na", 0, 1, s, "b")
		holds(t, "a\na", 0, 1, "a", s)
		holds(t, "a\na", 0, 1, "b", s)
	}
}

// P28.1 to P28.3: numbers beyond all lines, on either side, and both.
func TestFar(t *testing.T) {
	for _, s := range []string{"", "a", "\n", "a\na", "\n\na\n", "\xff"} {
		for _, n := range far() {
			for _, m := range append(far(), 0, 1) {
				holds(t, s, n, m, "a", "b")
				holds(t, s, m, n, "a", "b")
			}
		}
	}
}

// P28.1 to P28.3: texts by chance, of many lines, up to above MaxText.
func TestChance(t *testing.T) {
	r := rand.New(rand.NewSource(28))
	pieces := []string{"a", "b", "ab", " ", "\t", "\u00e9", "\u20ac", "\n", "\n", "aa"}
	some := func(n int) string {
		s := ""
		for range r.Intn(n) {
			s += pieces[r.Intn(len(pieces))]
		}
		return s
	}
	for range 3000 {
		s := some(40)
		if r.Intn(10) == 0 {
			s += strings.Repeat(some(20), r.Intn(400))
		}
		n := strings.Count(s, "\n")
		a, b := r.Intn(n+1), r.Intn(n+2)
		holds(t, s, a, b, some(4), some(5))
		holds(t, s, min(a, b), n, pieces[r.Intn(7)], some(3))
	}
}

// P28.4: as many lines as before, those beside first to last as they were, and each without what Count tells.
func TestLines(t *testing.T) {
	for _, s := range made(6, "a", "b", "\n") {
		n := strings.Count(s, "\n")
		for a := range n + 1 {
			for b := a; b <= n; b++ {
				got := swapped(s, a, b, "a", "xyx", true)
				if got.e != api.OK {
					continue
				}
				rows, old := strings.Split(got.text, "\n"), strings.Split(s, "\n")
				if len(rows) != len(old) {
					t.Fatalf("%q, %d to %d: %q", s, a, b, got.text)
				}
				for k := range rows {
					if same := rows[k] == old[k]; same != (k < a || k > b || !strings.Contains(old[k], "a")) {
						t.Fatalf("%q, %d to %d: %q", s, a, b, got.text)
					}
				}
				if many := sub.Count(got.text, 0, n, "xyx"); many != sub.Count(s, a, b, "a") || sub.Count(got.text, a, b, "a") != 0 {
					t.Fatalf("%q, %d to %d: %q has %d", s, a, b, got.text, many)
				}
			}
		}
	}
}

// P28.4: what was put in is put back, where nothing of it stood ahead.
func TestBack(t *testing.T) {
	for _, s := range made(6, "a", "b", "\n") {
		n := strings.Count(s, "\n")
		for _, pat := range []string{"a", "ab", "aa", "bab"} {
			for _, rep := range []string{"x", "xx", "xyx", "\u00e9", "\u20acx"} {
				for _, all := range []bool{false, true} {
					there := swapped(s, 0, n, pat, rep, all)
					if there.e == api.ErrNone {
						continue
					}
					back := swapped(there.text, 0, n, rep, pat, all)
					if back.text != s || back.e != api.OK {
						t.Fatalf("%q to %q of %q: %q, and back %q", pat, rep, s, there.text, back.text)
					}
				}
			}
		}
	}
}

// Every call ends, and soon: of long texts, with what stands often, and with what nearly does.
func TestLong(t *testing.T) {
	const n = 200000
	from := time.Now()
	a := strings.Repeat("a", n)
	for _, x := range []struct {
		s, pat, rep string
		all         bool
		want        answer
		many        int
	}{
		{a, "a", "", true, answer{}, n},
		{a, "aa", "", true, answer{}, n / 2},
		{a + "b", "a", "", true, answer{"b", 0, api.OK}, n},
		{a, "a", "b", true, answer{e: api.ErrRoom}, n},
		{a, "a", "", false, answer{e: api.ErrRoom}, n},
		{a, a[1:] + "b", "", true, answer{e: api.ErrNone}, 0},
		{a + "b", a[1:] + "b", "", true, answer{"a", 0, api.OK}, 1},
		{a, a[:n/2] + "b" + a[:n/4], "", true, answer{e: api.ErrNone}, 0},
		{strings.Repeat("ba", n), "a", "", true, answer{e: api.ErrRoom}, n},
		{strings.Repeat("\n", n), "a", "", true, answer{e: api.ErrNone}, 0},
		{strings.Repeat("a\n", n), "a", "", true, answer{e: api.ErrRoom}, n},
		{strings.Repeat("a\n", n), "a", a, true, answer{e: api.ErrRoom}, n},
	} {
		lines := strings.Count(x.s, "\n")
		if got := swapped(x.s, 0, lines, x.pat, x.rep, x.all); got != x.want {
			t.Errorf("%.20q to %.20q of %.20q: %.20q, %d, error %d", x.pat, x.rep, x.s, got.text, got.at, got.e)
		}
		if got := sub.Count(x.s, 0, lines, x.pat); got != x.many {
			t.Errorf("%.20q in %.20q: %d", x.pat, x.s, got)
		}
	}
	if took := time.Since(from); took > 10*time.Second {
		t.Errorf("it took %v", took)
	}
}

// shares tells whether two texts have bytes in common.
func shares(a, b string) bool {
	if a == "" || b == "" {
		return false
	}
	p, q := uintptr(unsafe.Pointer(unsafe.StringData(a))), uintptr(unsafe.Pointer(unsafe.StringData(b)))
	return p < q+uintptr(len(b)) && q < p+uintptr(len(a))
}

// What is told is new memory, also where it is all of what was put in, or as it was.
func TestNewMemory(t *testing.T) {
	for _, x := range []struct{ s, pat, rep string }{
		{"abcabc", "b", "xx"}, {"abcabc", "b", "b"}, {"abcabc", "abcabc", "xyz"}, {"abcabc", "abc", ""}, {"ab", "a", ""}, {"ab", "b", ""}, {"ab", "ab", "ab"},
	} {
		for _, all := range []bool{false, true} {
			s, pat, rep := strings.Clone(x.s), strings.Clone(x.pat), strings.Clone(x.rep)
			got := swapped(s, 0, 0, pat, rep, all)
			if shares(got.text, s) || shares(got.text, pat) || shares(got.text, rep) {
				t.Errorf("%q: %q is not new memory", x, got.text)
			}
			if s != x.s || pat != x.pat || rep != x.rep {
				t.Errorf("%q was changed", x)
			}
		}
	}
}

// Nothing is kept: a call tells the same behind any others.
func TestNothingKept(t *testing.T) {
	const s = "ab\nab a\n"
	one, many := swapped(s, 0, 2, "a", "x", false), sub.Count(s, 0, 2, "a")
	for _, x := range []string{"a", "b", "", "\xff", "\n", strings.Repeat("a", 5000)} {
		swapped(x, 0, 0, "a", "y", true)
		swapped(s, 0, 2, x, "y", true)
		swapped(s, 0, 2, "a", x, true)
		sub.Count(s, 1, 1, x)
		sub.Range(x, 0, 0)
		if got := swapped(s, 0, 2, "a", "x", false); got != one || sub.Count(s, 0, 2, "a") != many {
			t.Fatalf("behind %.20q: %v", x, got)
		}
	}
}
