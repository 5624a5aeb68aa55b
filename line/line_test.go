package line_test

import (
	"math"
	"strings"
	"testing"
	"unicode/utf8"

	"calamus/line"
)

// signs are the runes of which all short texts are made: what ends a line, what First passes, and others of one to four bytes.
var signs = []string{"a", "\n", " ", "\t", "\u00e9", "\u20ac", "\U0001f600"}

// texts are valid ones: all of up to four of these runes, and some by hand.
func texts() []string {
	l := []string{""}
	for from, n := 0, 0; n < 4; n++ {
		to := len(l)
		for _, s := range l[from:to] {
			for _, r := range signs {
				l = append(l, s+r)
			}
		}
		from = to
	}
	return append(l,
		"ab\n\ncd", "ab\n\ncd\n", "\n\n\n\n\n\n", "one two\n\tthree\n  \u00e9t\u00e9\n \t \n\u20ac\U0001f600\n",
		// What is no line feed and no blank of this layer, though it is elsewhere.
		"a\rb\r\nc\vd\fe\x00f", "\r\n\v\f\x00", "\u0085\u2028\u2029\u00a0\u3000x\n\u00a0", "\x7f\n\x1f",
		// Runes one byte of which differs from a line feed, a blank, a tab by its high bit alone.
		"\u010a\u0120\u0109\n\u2020\u208a\u2089\u20a0", strings.Repeat("\u20ac", 9)+"\n"+strings.Repeat(" ", 9),
	)
}

// wrong are bytes that are no valid texts.
func wrong() []string {
	l := []string{
		"\xff", "\x80", "\xc3", "\xc3a", "\xe2\x82", "\xe2\x82\n", "\xf0\x9f\x98", "\xc0\x8a", "\xc0\xa0", "\xed\xa0\x80", "\xf4\x90\x80\x80", "\u00e9\x80",
	}
	for _, s := range l {
		l = append(l, "ab\n"+s, s+"\nab", "ab\n\n"+s+"\n\ncd", "\n"+s, s+"\n", " \t"+s)
	}
	return l
}

// numbers are those from far below a text or a line of n to far above it.
func numbers(n int) []int {
	l := []int{math.MinInt, math.MinInt + 1, math.MinInt32, math.MaxInt32, 1 << 32, math.MaxInt - 1, math.MaxInt}
	for k := -3; k <= n+3; k++ {
		l = append(l, k)
	}
	return l
}

// cut tells from where to where the lines of a text go, by the library's own way to part it.
func cut(t string) [][2]int {
	l, at := [][2]int{}, 0
	for _, s := range strings.Split(t, "\n") {
		l = append(l, [2]int{at, at + len(s)})
		at += len(s) + 1
	}
	return l
}

// places are those of a valid text from one offset to another one, by the language's own way through it.
func places(t string, from, to int) []int {
	l := []int{}
	for at := range t[from:to] {
		l = append(l, from+at)
	}
	return append(l, to)
}

// normals are the normal places of a line.
func normals(t string, from, to int) []int {
	l := places(t, from, to)
	if from < to {
		l = l[:len(l)-1]
	}
	return l
}

// has tells whether a number is in a list.
func has(l []int, n int) bool {
	for _, x := range l {
		if x == n {
			return true
		}
	}
	return false
}

// P4.1: the lines by hand: without a line feed, with one at the end, at the beginning, alone, and two in a row.
func TestLinesByHand(t *testing.T) {
	for _, x := range []struct {
		text  string
		lines [][2]int
	}{
		{"", [][2]int{{0, 0}}},
		{"ab", [][2]int{{0, 2}}},
		{"\n", [][2]int{{0, 0}, {1, 1}}},
		{"ab\n", [][2]int{{0, 2}, {3, 3}}},
		{"\nab", [][2]int{{0, 0}, {1, 3}}},
		{"ab\n\ncd", [][2]int{{0, 2}, {3, 3}, {4, 6}}},
		{"ab\ncd\n\n", [][2]int{{0, 2}, {3, 5}, {6, 6}, {7, 7}}},
		{"\u00e9\u20ac\n\U0001f600", [][2]int{{0, 5}, {6, 10}}},
		{"a\r\nb\vc", [][2]int{{0, 2}, {3, 6}}},
		{"\u010a\u208a", [][2]int{{0, 5}}},
	} {
		if n := line.Count(x.text); n != len(x.lines) {
			t.Errorf("Count(%q): %d", x.text, n)
		}
		for k, want := range x.lines {
			if start, end := line.Start(x.text, k), line.End(x.text, k); start != want[0] || end != want[1] {
				t.Errorf("%q, line %d: %d to %d", x.text, k, start, end)
			}
		}
		for _, k := range []int{math.MinInt, -1, len(x.lines), math.MaxInt} {
			if start, end := line.Start(x.text, k), line.End(x.text, k); start != -1 || end != -1 {
				t.Errorf("%q, line %d: %d to %d", x.text, k, start, end)
			}
		}
	}
}

// P4.1: the lines of all texts.
func TestLines(t *testing.T) {
	for _, s := range texts() {
		l := cut(s)
		if n := line.Count(s); n != len(l) || n != strings.Count(s, "\n")+1 {
			t.Errorf("Count(%q): %d", s, n)
		}
		for _, k := range numbers(len(l)) {
			want := [2]int{-1, -1}
			if k >= 0 && k < len(l) {
				want = l[k]
			}
			if start, end := line.Start(s, k), line.End(s, k); start != want[0] || end != want[1] {
				t.Errorf("%q, line %d: %d to %d, not %d to %d", s, k, start, end, want[0], want[1])
			}
		}
	}
}

// P4.1: the line of each offset, also of those inside a rune; a line feed is of the line that it ends.
func TestOf(t *testing.T) {
	const hand = "ab\n\n\u20ac\n"
	for p, want := range []int{0, 0, 0, 1, 2, 2, 2, 2, 3, -1} {
		if k := line.Of(hand, p); k != want {
			t.Errorf("Of(%q, %d): %d, not %d", hand, p, k, want)
		}
	}
	for _, s := range texts() {
		l := cut(s)
		for _, p := range numbers(len(s)) {
			want := -1
			for k, x := range l {
				if x[0] <= p && p <= len(s) {
					want = k
				}
			}
			if k := line.Of(s, p); k != want {
				t.Errorf("Of(%q, %d): %d, not %d", s, p, k, want)
			}
		}
	}
	if line.Of("", 0) != 0 || line.Of("", 1) != -1 || line.Of("", -1) != -1 {
		t.Error("the empty text")
	}
}

// P4.2: columns by hand: runes are counted, not bytes; a line feed has the column behind its line's last rune; inside a rune is none.
func TestColumnByHand(t *testing.T) {
	const s = "ab\n\u00e9\U0001f600c\n\n"
	for p, want := range []int{0, 1, 2, 0, -1, 1, -1, -1, -1, 2, 3, 0, 0, -1} {
		if n := line.Column(s, p); n != want {
			t.Errorf("%d: %d, not %d", p, n, want)
		}
	}
	if line.Column("", 0) != 0 || line.Column("", 1) != -1 || line.Column("", -1) != -1 {
		t.Error("the empty text")
	}
}

// P4.2: the columns of all texts.
func TestColumn(t *testing.T) {
	for _, s := range texts() {
		want := map[int]int{}
		for _, x := range cut(s) {
			for col, p := range places(s, x[0], x[1]) {
				want[p] = col
			}
		}
		for _, p := range numbers(len(s)) {
			col, is := want[p]
			if !is {
				col = -1
			}
			if n := line.Column(s, p); n != col {
				t.Errorf("Column(%q, %d): %d, not %d", s, p, n, col)
			}
		}
	}
}

// P4.2: places of columns by hand: below 0, each one, the end's, and above it; and lines that are none.
func TestAtByHand(t *testing.T) {
	const s = "ab\n\u00e9\U0001f600c\n\n"
	for _, x := range [][3]int{
		{0, -1, 0}, {0, 0, 0}, {0, 1, 1}, {0, 2, 2}, {0, 3, 2}, {0, math.MaxInt, 2}, {0, math.MinInt, 0},
		{1, -1, 3}, {1, 0, 3}, {1, 1, 5}, {1, 2, 9}, {1, 3, 10}, {1, 4, 10}, {1, 7, 10}, {1, math.MaxInt, 10}, {1, math.MinInt, 3},
		{2, -1, 11}, {2, 0, 11}, {2, 1, 11}, {2, math.MaxInt, 11},
		{3, -1, 12}, {3, 0, 12}, {3, 1, 12},
		{4, 0, -1}, {4, -1, -1}, {-1, 0, -1}, {-1, 9, -1}, {math.MaxInt, 0, -1}, {math.MinInt, 0, -1},
	} {
		if p := line.At(s, x[0], x[1]); p != x[2] {
			t.Errorf("line %d, column %d: %d, not %d", x[0], x[1], p, x[2])
		}
	}
	if line.At("", 0, 0) != 0 || line.At("", 0, 1) != 0 || line.At("", 0, -1) != 0 || line.At("", 1, 0) != -1 {
		t.Error("the empty text")
	}
}

// P4.2: the places of columns in all texts.
func TestAt(t *testing.T) {
	for _, s := range texts() {
		l := cut(s)
		for _, k := range numbers(len(l)) {
			for _, col := range numbers(len(s)) {
				want := -1
				if k >= 0 && k < len(l) {
					of := places(s, l[k][0], l[k][1])
					want = of[min(max(col, 0), len(of)-1)]
				}
				if p := line.At(s, k, col); p != want {
					t.Errorf("At(%q, %d, %d): %d, not %d", s, k, col, p, want)
				}
			}
		}
	}
}

// P4.3: First by hand: behind blanks and tabs, on the last one of these in a line of them alone, at the start of a line without runes.
func TestFirstByHand(t *testing.T) {
	for _, x := range []struct {
		text  string
		first []int
	}{
		{"", []int{0}},
		{"ab", []int{0}},
		{"  ab", []int{2}},
		{"\t \tab \t", []int{3}},
		{" ", []int{0}},
		{"\t", []int{0}},
		{"   ", []int{2}},
		{" \t", []int{1}},
		{"\n", []int{0, 1}},
		{"  \n\t\n \t\n", []int{1, 3, 6, 8}},
		{" \u00e9\n\u20ac \n  \U0001f600", []int{1, 4, 11}},
		// A line feed is passed by no line.
		{" \nab", []int{0, 2}},
		// These are neither blanks nor tabs.
		{" \ra\n\v\n\f\n\x00", []int{1, 4, 6, 8}},
		{"\u00a0x\n \u3000x", []int{0, 5}},
		{"\u2020 \n \u0109", []int{0, 6}},
	} {
		for k, want := range x.first {
			if p := line.First(x.text, k); p != want {
				t.Errorf("First(%q, %d): %d, not %d", x.text, k, p, want)
			}
		}
		for _, k := range []int{math.MinInt, -1, len(x.first), math.MaxInt} {
			if p := line.First(x.text, k); p != -1 {
				t.Errorf("First(%q, %d): %d", x.text, k, p)
			}
		}
	}
}

// P4.3: First in all texts.
func TestFirst(t *testing.T) {
	for _, s := range texts() {
		l := cut(s)
		for _, k := range numbers(len(l)) {
			want := -1
			if k >= 0 && k < len(l) {
				of := s[l[k][0]:l[k][1]]
				if rest := strings.TrimLeft(of, " \t"); rest != "" {
					want = l[k][1] - len(rest)
				} else {
					// All are of one byte.
					want = l[k][0] + max(len(of)-1, 0)
				}
			}
			if p := line.First(s, k); p != want {
				t.Errorf("First(%q, %d): %d, not %d", s, k, p, want)
			}
		}
	}
}

// P4.3: normal places by hand: runes but line feeds, and the starts of lines without runes.
func TestNormalByHand(t *testing.T) {
	for _, x := range []struct {
		text    string
		normals []int
	}{
		{"", []int{0}},
		{"ab", []int{0, 1}},
		{"\n", []int{0, 1}},
		{"ab\n", []int{0, 1, 3}},
		{"ab\n\ncd", []int{0, 1, 3, 4, 5}},
		{"\u00e9\n\n\U0001f600\u20ac", []int{0, 3, 4, 8}},
		{" \n\t", []int{0, 2}},
		{"a\r\n", []int{0, 1, 3}},
	} {
		for _, p := range numbers(len(x.text)) {
			if line.Normal(x.text, p) != has(x.normals, p) {
				t.Errorf("Normal(%q, %d): %v", x.text, p, !has(x.normals, p))
			}
		}
	}
}

// P4.3: Clamp by hand: below 0, above the length, inside a rune, on a line feed, at the end.
func TestClampByHand(t *testing.T) {
	for _, x := range []struct {
		text   string
		clamps []int
	}{
		// The offsets from 0 to one above the length.
		{"", []int{0, 0}},
		{"ab", []int{0, 1, 1, 1}},
		{"\n", []int{0, 1, 1}},
		{"ab\n", []int{0, 1, 1, 3, 3}},
		{"ab\n\ncd", []int{0, 1, 1, 3, 4, 5, 5, 5}},
		{"a\u00e9\n\n", []int{0, 1, 1, 1, 4, 5, 5}},
		{"\U0001f600\n\u20ac\u00e9", []int{0, 0, 0, 0, 0, 5, 5, 5, 8, 8, 8, 8}},
	} {
		for p, want := range x.clamps {
			if n := line.Clamp(x.text, p); n != want {
				t.Errorf("Clamp(%q, %d): %d, not %d", x.text, p, n, want)
			}
		}
		for _, p := range []int{math.MinInt, math.MinInt + 1, -2, -1} {
			if n := line.Clamp(x.text, p); n != x.clamps[0] {
				t.Errorf("Clamp(%q, %d): %d", x.text, p, n)
			}
		}
		for _, p := range []int{len(x.text) + 2, 1 << 32, math.MaxInt} {
			if n := line.Clamp(x.text, p); n != x.clamps[len(x.text)] {
				t.Errorf("Clamp(%q, %d): %d", x.text, p, n)
			}
		}
	}
}

// P4.3: Normal and Clamp in all texts: the last normal place of the offset's line that is not behind it.
func TestNormalAndClamp(t *testing.T) {
	for _, s := range texts() {
		all := []int{}
		clamp := map[int]int{}
		for _, x := range cut(s) {
			l := normals(s, x[0], x[1])
			all = append(all, l...)
			for p := x[0]; p <= x[1]; p++ {
				for _, n := range l {
					if n <= p {
						clamp[p] = n
					}
				}
			}
		}
		for _, p := range numbers(len(s)) {
			if line.Normal(s, p) != has(all, p) {
				t.Errorf("Normal(%q, %d): %v", s, p, !has(all, p))
			}
			if n := line.Clamp(s, p); n != clamp[min(max(p, 0), len(s))] {
				t.Errorf("Clamp(%q, %d): %d, not %d", s, p, n, clamp[min(max(p, 0), len(s))])
			}
		}
	}
}

// P4.4: the lines and line feeds are the text.
func TestLinesAreTheText(t *testing.T) {
	for _, s := range texts() {
		all := []string{}
		for k := range line.Count(s) {
			one := s[line.Start(s, k):line.End(s, k)]
			if strings.Contains(one, "\n") {
				t.Errorf("%q, line %d: %q", s, k, one)
			}
			all = append(all, one)
		}
		if got := strings.Join(all, "\n"); got != s {
			t.Errorf("%q: %q", s, got)
		}
		for p := range len(s) + 1 {
			if k := line.Of(s, p); p < line.Start(s, k) || p > line.End(s, k) {
				t.Errorf("%q: %d is not within line %d", s, p, k)
			}
		}
	}
}

// P4.4: Clamp is normal, and of what is normal itself.
func TestClampIsNormal(t *testing.T) {
	for _, s := range texts() {
		for _, p := range numbers(len(s)) {
			n := line.Clamp(s, p)
			if !line.Normal(s, n) || line.Clamp(s, n) != n {
				t.Errorf("Clamp(%q, %d): %d is not normal", s, p, n)
			}
			if line.Normal(s, p) && n != p {
				t.Errorf("Clamp(%q, %d): %d", s, p, n)
			}
			if k := line.Of(s, p); k >= 0 && line.Of(s, n) != k {
				t.Errorf("Clamp(%q, %d): %d is in another line", s, p, n)
			}
		}
		for k := range line.Count(s) {
			if p := line.First(s, k); !line.Normal(s, p) || line.Of(s, p) != k {
				t.Errorf("First(%q, %d): %d", s, k, p)
			}
		}
	}
}

// P4.4: Column and At lead back, from places and from columns.
func TestColumnAndAtLeadBack(t *testing.T) {
	for _, s := range texts() {
		for _, p := range places(s, 0, len(s)) {
			if q := line.At(s, line.Of(s, p), line.Column(s, p)); q != p {
				t.Errorf("%q: from %d to %d", s, p, q)
			}
		}
		for k := range line.Count(s) {
			for col := range line.Column(s, line.End(s, k)) + 1 {
				p := line.At(s, k, col)
				if line.Of(s, p) != k || line.Column(s, p) != col {
					t.Errorf("%q: from line %d, column %d to %d, %d", s, k, col, line.Of(s, p), line.Column(s, p))
				}
			}
		}
	}
}

// P4.1 to P4.3: of what is not valid nothing is told, not even of lines ahead of what is wrong.
func TestNothingOfWhatIsNotValid(t *testing.T) {
	for _, s := range wrong() {
		if utf8.ValidString(s) {
			t.Fatalf("%q is valid", s)
		}
		if n := line.Count(s); n != 0 {
			t.Errorf("Count(%q): %d", s, n)
		}
		for _, k := range numbers(len(s)) {
			if start, end, of := line.Start(s, k), line.End(s, k), line.Of(s, k); start != -1 || end != -1 || of != -1 {
				t.Errorf("%q, %d: from %d to %d, line %d", s, k, start, end, of)
			}
			if col, first := line.Column(s, k), line.First(s, k); col != -1 || first != -1 {
				t.Errorf("%q, %d: column %d, First %d", s, k, col, first)
			}
			if p := line.Clamp(s, k); p != 0 || line.Normal(s, k) {
				t.Errorf("%q, %d: Clamp %d, Normal %v", s, k, p, line.Normal(s, k))
			}
			for _, col := range []int{math.MinInt, -1, 0, 1, 9, math.MaxInt} {
				if p := line.At(s, k, col); p != -1 {
					t.Errorf("At(%q, %d, %d): %d", s, k, col, p)
				}
			}
		}
	}
}

// A long text, of long lines and of many.
func TestLongTexts(t *testing.T) {
	const n = 100000
	long := strings.Repeat("\u20ac", n) + "\n" + strings.Repeat(" ", n)
	if line.Count(long) != 2 || line.End(long, 0) != 3*n || line.Column(long, 3*n-3) != n-1 || line.At(long, 0, n-1) != 3*n-3 || line.First(long, 1) != 4*n || line.Clamp(long, 3*n) != 3*n-3 {
		t.Error("long lines")
	}
	many := strings.Repeat("a\n", n)
	if line.Count(many) != n+1 || line.Start(many, n) != 2*n || line.End(many, n-1) != 2*n-1 || line.Of(many, 2*n) != n || line.Clamp(many, 2*n-1) != 2*n-2 || !line.Normal(many, 2*n) {
		t.Error("many lines")
	}
}
