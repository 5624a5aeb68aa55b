package class_test

import (
	"math"
	"strings"
	"testing"
	"unicode/utf8"

	"calamus/class"
)

// words are all runes of one byte that are of the class Word.
const words = "abcdefghijklmnopqrstuvwxyzABCDEFGHIJKLMNOPQRSTUVWXYZ0123456789_"

// signs are the runes of which all short texts are made: of each class one or two, and of one to four bytes.
var signs = []string{"a", "Z", "_", "+", " ", "\t", "\n", "\u00e9", "\u20ac", "\U0001f600"}

// texts are valid ones: all of up to four of these runes, and some by hand.
func texts() []string {
	l := []string{""}
	for from, n := 0, 0; n < 4; n++ {
		to := len(l)
		for _, s := range l[from:to] {
			for _, r := range signs {
				l = append(l, s+r)
			}
		}
		from = to
	}
	return append(l,
		"ab+ c", "one, two\n\t(three)\n  \u00e9t\u00e9!\n \t \n\u20ac\U0001f600--\n", "a_9 \t+-\u00e9\nB", "\n\n\n\n\n",
		// What is no line feed and no blank of this layer, though it is elsewhere.
		"a\rb\r\nc\vd\fe\x00f", "\r\n\v\f\x00", "a\u0085\u2028\u2029\u00a0\u3000+", "\x7f\n\x1f",
		// Runes one byte of which differs from a line feed, a blank, a tab, a sign by its high bit alone.
		"\u010a\u0120\u0109+\u2020\u208a\u2089 \u20a0\u00ab", strings.Repeat("\u20ac", 9)+strings.Repeat(" ", 9)+strings.Repeat("+", 9),
	)
}

// wrong are bytes that are no valid texts.
func wrong() []string {
	l := []string{
		"\xff", "\x80", "\xc3", "\xc3a", "\xe2\x82", "\xe2\x82\n", "\xf0\x9f\x98", "\xc0\x8a", "\xc0\xa0", "\xed\xa0\x80", "\xf4\x90\x80\x80", "\u00e9\x80",
	}
	for _, s := range l {
		l = append(l, "ab+"+s, s+"ab+", "ab\n"+s+"\ncd", " "+s, s+"\n", " \t"+s)
	}
	return l
}

// numbers are those from far below a text of n bytes to far above it.
func numbers(n int) []int {
	l := []int{math.MinInt, math.MinInt + 1, math.MinInt32, math.MaxInt32, 1 << 32, math.MaxInt - 1, math.MaxInt}
	for k := -3; k <= n+3; k++ {
		l = append(l, k)
	}
	return l
}

// of tells a rune's class, or its great class, as the chapter's words put it.
func of(r rune, big bool) int {
	switch {
	case r == '\n':
		return class.Feed
	case strings.ContainsRune(" \t", r):
		return class.Blank
	case big || utf8.RuneLen(r) > 1 || strings.ContainsRune(words, r):
		return class.Word
	}
	return class.Sign
}

// classes tells the classes of a valid text's runes by their places.
func classes(t string, big bool) map[int]int {
	m := map[int]int{}
	for p, r := range t {
		m[p] = of(r, big)
	}
	return m
}

// runs tells from where to where the runs of a valid text go, by the places of their runes: a rune goes on with the run ahead of it, or begins one.
func runs(t string, big bool) map[int][2]int {
	m := map[int][2]int{}
	from, last := 0, 0
	for p, r := range t {
		c := of(r, big)
		if c != last {
			from, last = p, c
		}
		for q := from; q <= p && c != class.Feed; q++ {
			if utf8.RuneStart(t[q]) {
				m[q] = [2]int{from, p + utf8.RuneLen(r)}
			}
		}
	}
	return m
}

// The classes are numbers one behind the other.
func TestNumbers(t *testing.T) {
	if class.Blank != 1 || class.Word != 2 || class.Sign != 3 || class.Feed != 4 {
		t.Error(class.Blank, class.Word, class.Sign, class.Feed)
	}
}

// P5.1: the classes by hand: those that stand just beside letters, digits and the low line, and what is blank elsewhere.
func TestClassesByHand(t *testing.T) {
	for _, x := range []struct {
		runes      string
		class, big int
	}{
		{"\n", class.Feed, class.Feed},
		{" \t", class.Blank, class.Blank},
		{"azAZ09_bmyBMY158", class.Word, class.Word},
		{"/:@[^`{~!\"#$%&'()*+,-.;<=>?\\]|}", class.Sign, class.Word},
		{"\x00\x01\x08\v\f\r\x0e\x1b\x1f\x7f", class.Sign, class.Word},
		{"\u0080\u0085\u00a0\u00d7\u07ff\u0800\u2003\u2028\u3000\ufeff\ufffd\uffff\U00010000\U0001f600\U0010ffff", class.Word, class.Word},
		{"\u010a\u0109\u0120\u2020\u208a\u2089\u012b", class.Word, class.Word},
	} {
		for p, r := range x.runes {
			if c := class.Of(x.runes, p); c != x.class {
				t.Errorf("Of %q: %d, not %d", r, c, x.class)
			}
			if c := class.Big(x.runes, p); c != x.big {
				t.Errorf("Big %q: %d, not %d", r, c, x.big)
			}
		}
	}
}

// P5.1: the classes of all runes.
func TestClassesOfAllRunes(t *testing.T) {
	for r := rune(0); r <= utf8.MaxRune; r++ {
		if !utf8.ValidRune(r) {
			continue
		}
		s := string(r)
		if c := class.Of(s, 0); c != of(r, false) {
			t.Fatalf("Of %q: %d", r, c)
		}
		if c := class.Big(s, 0); c != of(r, true) {
			t.Fatalf("Big %q: %d", r, c)
		}
	}
}

// P5.1: the classes in all texts: none below 0, inside a rune, at the end and above it.
func TestClassesInTexts(t *testing.T) {
	for _, s := range texts() {
		plain, great := classes(s, false), classes(s, true)
		for _, p := range numbers(len(s)) {
			if c := class.Of(s, p); c != plain[p] {
				t.Errorf("Of(%q, %d): %d, not %d", s, p, c, plain[p])
			}
			if c := class.Big(s, p); c != great[p] {
				t.Errorf("Big(%q, %d): %d, not %d", s, p, c, great[p])
			}
		}
	}
}

// P5.2: runs by hand, by each offset of a text: at its beginning and end, at a line's start and end, of one rune, of longer runes, and inside of these.
func TestRunByHand(t *testing.T) {
	none := [2]int{-1, -1}
	for _, x := range []struct {
		text       string
		plain, big [][2]int
	}{
		{"", [][2]int{none}, [][2]int{none}},
		{"\n", [][2]int{none, none}, [][2]int{none, none}},
		{"a", [][2]int{{0, 1}, none}, [][2]int{{0, 1}, none}},
		{"ab+ c", [][2]int{{0, 2}, {0, 2}, {2, 3}, {3, 4}, {4, 5}, none}, [][2]int{{0, 3}, {0, 3}, {0, 3}, {3, 4}, {4, 5}, none}},
		{"a\nb+", [][2]int{{0, 1}, none, {2, 3}, {3, 4}, none}, [][2]int{{0, 1}, none, {2, 4}, {2, 4}, none}},
		{" \t\n \n", [][2]int{{0, 2}, {0, 2}, none, {3, 4}, none, none}, [][2]int{{0, 2}, {0, 2}, none, {3, 4}, none, none}},
		{"+a+\n\n", [][2]int{{0, 1}, {1, 2}, {2, 3}, none, none, none}, [][2]int{{0, 3}, {0, 3}, {0, 3}, none, none, none}},
		{"+\u00e9z\u20ac ", [][2]int{{0, 1}, {1, 7}, none, {1, 7}, {1, 7}, none, none, {7, 8}, none}, [][2]int{{0, 7}, {0, 7}, none, {0, 7}, {0, 7}, none, none, {7, 8}, none}},
		{"\U0001f600-", [][2]int{{0, 4}, none, none, none, {4, 5}, none}, [][2]int{{0, 5}, none, none, none, {0, 5}, none}},
		{"a\r\n", [][2]int{{0, 1}, {1, 2}, none, none}, [][2]int{{0, 2}, {0, 2}, none, none}},
	} {
		for p := range len(x.text) + 1 {
			if from, to := class.Run(x.text, p, false); from != x.plain[p][0] || to != x.plain[p][1] {
				t.Errorf("Run(%q, %d, false): %d to %d, not %v", x.text, p, from, to, x.plain[p])
			}
			if from, to := class.Run(x.text, p, true); from != x.big[p][0] || to != x.big[p][1] {
				t.Errorf("Run(%q, %d, true): %d to %d, not %v", x.text, p, from, to, x.big[p])
			}
		}
	}
}

// P5.2: the runs of all texts.
func TestRun(t *testing.T) {
	for _, s := range texts() {
		for _, big := range []bool{false, true} {
			all := runs(s, big)
			for _, p := range numbers(len(s)) {
				want, is := all[p]
				if !is {
					want = [2]int{-1, -1}
				}
				if from, to := class.Run(s, p, big); from != want[0] || to != want[1] {
					t.Errorf("Run(%q, %d, %v): %d to %d, not %v", s, p, big, from, to, want)
				}
			}
		}
	}
}

// P5.3: letters by hand: those beside them stay, and so do letters of more than one byte.
func TestLettersByHand(t *testing.T) {
	for _, x := range []struct{ s, up, low, flip string }{
		{"", "", "", ""},
		{"a", "A", "a", "A"},
		{"Z", "Z", "z", "z"},
		{"azAZ", "AZAZ", "azaz", "AZaz"},
		{"One two, 3_4\n", "ONE TWO, 3_4\n", "one two, 3_4\n", "oNE TWO, 3_4\n"},
		{"@[`{/:09_", "@[`{/:09_", "@[`{/:09_", "@[`{/:09_"},
		{"\u00e9\u00c9x\u00dfY\u20ac\U00010428", "\u00e9\u00c9X\u00dfY\u20ac\U00010428", "\u00e9\u00c9x\u00dfy\u20ac\U00010428", "\u00e9\u00c9X\u00dfy\u20ac\U00010428"},
		{"\u0131\u212ak", "\u0131\u212aK", "\u0131\u212ak", "\u0131\u212aK"},
		{"a\xffB\xc1\xe1\x80c\x00", "A\xffB\xc1\xe1\x80C\x00", "a\xffb\xc1\xe1\x80c\x00", "A\xffb\xc1\xe1\x80C\x00"},
	} {
		if s := class.Up(x.s); s != x.up {
			t.Errorf("Up(%q): %q", x.s, s)
		}
		if s := class.Low(x.s); s != x.low {
			t.Errorf("Low(%q): %q", x.s, s)
		}
		if s := class.Flip(x.s); s != x.flip {
			t.Errorf("Flip(%q): %q", x.s, s)
		}
	}
}

// P5.3: what each of all bytes becomes, alone and between others.
func TestLettersOfAllBytes(t *testing.T) {
	const small, capital = "abcdefghijklmnopqrstuvwxyz", "ABCDEFGHIJKLMNOPQRSTUVWXYZ"
	for n := range 256 {
		b := string([]byte{byte(n)})
		up, low, flip := b, b, b
		if k := strings.Index(small, b); k >= 0 {
			up, flip = capital[k:k+1], capital[k:k+1]
		}
		if k := strings.Index(capital, b); k >= 0 {
			low, flip = small[k:k+1], small[k:k+1]
		}
		for _, x := range [][2]string{{"", ""}, {"1", "\n"}, {"\xff", "\xc3"}, {"+", ""}} {
			if s := class.Up(x[0] + b + x[1]); s != x[0]+up+x[1] {
				t.Errorf("Up of %q: %q", x[0]+b+x[1], s)
			}
			if s := class.Low(x[0] + b + x[1]); s != x[0]+low+x[1] {
				t.Errorf("Low of %q: %q", x[0]+b+x[1], s)
			}
			if s := class.Flip(x[0] + b + x[1]); s != x[0]+flip+x[1] {
				t.Errorf("Flip of %q: %q", x[0]+b+x[1], s)
			}
		}
	}
}

// P5.4: what leads: blanks and tabs alone, also ahead of what is not valid.
func TestLeadByHand(t *testing.T) {
	for _, x := range []struct {
		s    string
		lead int
	}{
		{"", 0}, {"a", 0}, {" ", 1}, {"\t", 1}, {" a", 1}, {"\ta ", 1}, {" \t \t", 4}, {"a \t", 0}, {"  a  ", 2},
		{"\n ", 0}, {" \n \t", 1}, {"\r ", 0}, {" \v", 1}, {"\t\f", 1}, {" \x00 ", 1},
		{"\u00a0 ", 0}, {" \u3000 ", 1}, {"\t\u00e9", 1}, {" \u2020", 1}, {"\u0120 ", 0},
		{"\xff ", 0}, {" \t\xff ", 2}, {"\xa0 ", 0}, {"\x89\t", 0},
	} {
		if n := class.Lead(x.s); n != x.lead {
			t.Errorf("Lead(%q): %d, not %d", x.s, n, x.lead)
		}
	}
}

// P5.4: Lead of all texts.
func TestLead(t *testing.T) {
	for _, s := range append(texts(), wrong()...) {
		if n, want := class.Lead(s), len(s)-len(strings.TrimLeft(s, " \t")); n != want {
			t.Errorf("Lead(%q): %d, not %d", s, n, want)
		}
	}
}

// P5.5: all runes of a run have its class, those ahead and behind have not; and each of them has the same run.
func TestRunIsOfOneClass(t *testing.T) {
	for _, s := range texts() {
		for big, of := range map[bool]func(string, int) int{false: class.Of, true: class.Big} {
			for p := range s {
				from, to := class.Run(s, p, big)
				if from < 0 {
					continue
				}
				c := of(s, p)
				if from > p || to <= p || to > len(s) || strings.Contains(s[from:to], "\n") {
					t.Errorf("Run(%q, %d, %v): %d to %d", s, p, big, from, to)
				}
				if _, n := utf8.DecodeLastRuneInString(s[:from]); n > 0 && of(s, from-n) == c || of(s, to) == c {
					t.Errorf("Run(%q, %d, %v): %d to %d is not all of it", s, p, big, from, to)
				}
				for q := range s[from:to] {
					a, b := class.Run(s, from+q, big)
					if of(s, from+q) != c || a != from || b != to {
						t.Errorf("%q: %d is of another run than %d, %v", s, from+q, p, big)
					}
				}
			}
		}
	}
}

// P5.5: runs lie one behind the other, and are all of a text but its line feeds.
func TestRunsAreTheText(t *testing.T) {
	for _, s := range texts() {
		for _, big := range []bool{false, true} {
			for p := 0; p < len(s); {
				from, to := class.Run(s, p, big)
				if s[p] == '\n' && from == -1 && to == -1 {
					p++
					continue
				}
				if from != p || to <= p {
					t.Fatalf("Run(%q, %d, %v): %d to %d", s, p, big, from, to)
				}
				p = to
			}
		}
	}
}

// P5.5: Flip twice is the same, of whatever bytes; and Up, Low and Flip agree with each other.
func TestFlipTwice(t *testing.T) {
	for _, s := range append(texts(), wrong()...) {
		if class.Flip(class.Flip(s)) != s {
			t.Errorf("Flip(%q) twice: %q", s, class.Flip(class.Flip(s)))
		}
		up, low := class.Up(s), class.Low(s)
		if class.Up(low) != up || class.Low(up) != low || class.Up(up) != up || class.Low(low) != low || class.Flip(up) != low || class.Flip(low) != up {
			t.Errorf("%q: up %q, low %q", s, up, low)
		}
	}
}

// P5.1, P5.2: of what is not valid nothing is told, not even of runes ahead of what is wrong.
func TestNothingOfWhatIsNotValid(t *testing.T) {
	for _, s := range wrong() {
		if utf8.ValidString(s) {
			t.Fatalf("%q is valid", s)
		}
		for _, p := range numbers(len(s)) {
			if a, b := class.Of(s, p), class.Big(s, p); a != 0 || b != 0 {
				t.Errorf("%q, %d: class %d, great class %d", s, p, a, b)
			}
			for _, big := range []bool{false, true} {
				if from, to := class.Run(s, p, big); from != -1 || to != -1 {
					t.Errorf("Run(%q, %d, %v): %d to %d", s, p, big, from, to)
				}
			}
		}
	}
}

// Long runs: of short and of long runes, and one behind the other.
func TestLongTexts(t *testing.T) {
	const n = 100000
	s := strings.Repeat("\u20ac", n) + strings.Repeat("+", n) + strings.Repeat(" ", n) + "\n" + strings.Repeat("a", n)
	for _, x := range []struct {
		p        int
		big      bool
		from, to int
	}{
		{3 * (n / 2), false, 0, 3 * n}, {3*n + n/2, false, 3 * n, 4 * n}, {3 * (n / 2), true, 0, 4 * n}, {4*n - 1, true, 0, 4 * n},
		{5*n - 1, true, 4 * n, 5 * n}, {5 * n, true, -1, -1}, {5*n + 1, false, 5*n + 1, 6*n + 1}, {6 * n, true, 5*n + 1, 6*n + 1}, {6*n + 1, false, -1, -1}, {3*n - 1, false, -1, -1},
	} {
		if from, to := class.Run(s, x.p, x.big); from != x.from || to != x.to {
			t.Errorf("Run at %d, %v: %d to %d, not %d to %d", x.p, x.big, from, to, x.from, x.to)
		}
	}
	if class.Lead(s[4*n:]) != n || class.Flip(s)[5*n+1:] != strings.Repeat("A", n) || class.Flip(s)[:5*n+1] != s[:5*n+1] {
		t.Error("long letters")
	}
}
