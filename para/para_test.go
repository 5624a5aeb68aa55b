package para_test

import (
	"math"
	"math/rand"
	"slices"
	"strings"
	"testing"
	"unicode/utf8"

	"calamus/para"
)

// keys are the motions' keys.
func keys() []string {
	return []string{"}", "{"}
}

// texts are valid ones: all of up to some runes of one letter and line feeds, of others with them, and some by hand.
func texts() []string {
	l := made([]string{"a", "\n"}, 9)
	l = append(l, made([]string{"\n", "\u00e9", "\U0001f600"}, 5)...)
	l = append(l, made([]string{"\n", " ", "\t", "\r"}, 4)...)
	return append(l,
		"\na\nb\n\n\nc\n", "a\n\nb", "ab\ncd\n\nef\ngh\n\n\n\nij", "\n\n\n\n\n\n\n\n\n\n\n\n", "one two\n\n\n\n\n\n\n\n",
		// What ends no line of layer 4, though it does elsewhere, and what shows nothing and is a rune all the same.
		"a\r\n\r\nb\r\n", "a\n\v\n\f\n\u0085\n\u2028\n\u2029\nb", "a\r\rb", "a\n\x00\nb", "a\n\ufeff\nb", "a\n\u200b\n\nb", "a\n \nb\n\t\n\nc",
		"{\n}\n\n{\n}", ".SH\n\n.PP\n\n\\section\n",
		"\ufffd\n\n\U0001f600\n\n",
	)
}

// made are all texts of up to n of these runes.
func made(runes []string, n int) []string {
	l := []string{""}
	for from := 0; n > 0; n-- {
		to := len(l)
		for _, s := range l[from:to] {
			for _, r := range runes {
				l = append(l, s+r)
			}
		}
		from = to
	}
	return l
}

// wrong are bytes that are no valid texts, with blocks ahead of what is wrong and behind it.
func wrong() []string {
	l := []string{
		"\xff", "\x80", "\xc3", "\xc3a", "\xe2\x82", "\xe2\x82\n", "\xf0\x9f\x98", "\xc0\x8a", "\xe0\x80\x8a", "\xed\xa0\x80", "\xf4\x90\x80\x80", "\u00e9\x80",
	}
	for _, s := range l {
		l = append(l, "a\n\nb"+s, s+"a\n\nb", "a\n"+s+"\nb", "\n\n"+s, s+"\n\n", "a\n\n"+s+"\n\nb")
	}
	return l
}

// noKeys are texts that are no keys of this layer: none, other motions' keys, both, several, and with something ahead or behind.
func noKeys() []string {
	l := []string{"", "{}", "}{", "{{", "}}", " }", "} ", "{\n", "2}", "d{", "}\x00", "}\xff", "\xff{", "<lt>", "(", ")", "[", "]", "[[", "]]", "w", "j", "k", "G", "gg", "p", "ap", "ip", "|", "~", "\uff5b", "\uff5d", "\u017b", "\u017d", "\xc0\xbb"}
	for b := range 256 {
		if b != '{' && b != '}' {
			l = append(l, string([]byte{byte(b)}))
		}
	}
	return l
}

// far are numbers beyond all texts, from both ends of what a number can be.
func far() []int {
	return []int{math.MinInt, math.MinInt + 1, math.MinInt32, math.MaxInt32, 1 << 32, math.MaxInt - 1, math.MaxInt}
}

// places are where a valid text's runes begin, and its end.
func places(t string) []int {
	l := []int{}
	for p := range t {
		l = append(l, p)
	}
	return append(l, len(t))
}

// row is a line: where it starts, and whether it is empty.
type row struct {
	start int
	empty bool
}

// rows are the lines of a text, by the library's own way through it.
func rows(t string) []row {
	l, at := []row{}, 0
	for _, s := range strings.Split(t, "\n") {
		l = append(l, row{at, utf8.RuneCountInString(s) == 0})
		at += len(s) + 1
	}
	return l
}

// lineOf is the line of a place.
func lineOf(l []row, p int) int {
	k := 0
	for k+1 < len(l) && l[k+1].start <= p {
		k++
	}
	return k
}

// wantOnce is what the chapter says of one step, gone line by line; -1, if it fails.
func wantOnce(t string, p int, key string) int {
	l := rows(t)
	k := lineOf(l, p)
	if key == "}" {
		if p == len(t) {
			return -1
		}
		for j := k + 1; j < len(l); j++ {
			if l[j].empty && !l[j-1].empty {
				return l[j].start
			}
		}
		return len(t)
	}
	if p == 0 {
		return -1
	}
	for j := k - 1; j >= 0; j-- {
		if l[j].empty && !l[j+1].empty {
			return l[j].start
		}
	}
	return 0
}

// wantGo is what the chapter says of n steps: the first one may fail, at the text's end and at 0 the others go no further.
func wantGo(t string, p int, key string, n int) int {
	to := wantOnce(t, p, key)
	for i := 1; i < n && to >= 0; i++ {
		next := wantOnce(t, to, key)
		if next < 0 {
			break
		}
		to = next
	}
	return to
}

// wantBlock is what the chapter says: as many lines as there are that are as that of the place, and then those beside them.
func wantBlock(t string, p int, all bool) (int, int) {
	l := rows(t)
	from := lineOf(l, p)
	to := from
	on := func() {
		for to+1 < len(l) && l[to+1].empty == l[to].empty {
			to++
		}
	}
	back := func() {
		for from > 0 && l[from-1].empty == l[from].empty {
			from--
		}
	}
	on()
	back()
	switch {
	case all && to+1 < len(l):
		to++
		on()
	case all && from > 0:
		from--
		back()
	}
	return from, to
}

// leads holds Go against a place, or against none, if that is -1.
func leads(t *testing.T, s string, p int, key string, n, to int) {
	t.Helper()
	got, ok := para.Go(s, p, key, n)
	if ok != (to >= 0) || got != max(to, 0) {
		t.Errorf("Go(%q, %d, %q, %d): %d, %t, not %d", s, p, key, n, got, ok, to)
	}
}

// block holds Block against two lines.
func block(t *testing.T, s string, p int, all bool, a, b int) {
	t.Helper()
	if x, y := para.Block(s, p, all); x != a || y != b {
		t.Errorf("Block(%q, %d, %t): %d, %d, not %d, %d", s, p, all, x, y, a, b)
	}
}

// try is a call by hand: the place, the count; the target, or -1, if the motion fails.
type try struct{ p, n, to int }

// hand holds calls of one key in one text against what they tell.
func hand(t *testing.T, s, key string, l ...try) {
	t.Helper()
	for _, x := range l {
		leads(t, s, x.p, key, x.n, x.to)
	}
}

// P18.1: } by hand: the first line of the next empty ones, not one of those in which one is; the text's end behind them, and nothing from there.
func TestOn(t *testing.T) {
	// The lines start at 0, 3 (empty), 4 (empty), 5, 8, 10 (empty), 11 (empty), 12 (empty), 13; the end is at 15.
	const s = "\u00e9\n\n\ncd\ne\n\n\n\nfg"
	hand(t, s, "}",
		try{0, 0, 3}, try{0, 1, 3}, try{2, 1, 3}, try{0, 2, 10}, try{0, 3, 15}, try{0, 4, 15}, try{0, 99, 15},
		try{3, 1, 10}, try{4, 1, 10}, try{5, 1, 10}, try{7, 1, 10}, try{8, 1, 10}, try{9, 1, 10}, try{4, 2, 15}, try{9, 3, 15},
		try{10, 1, 15}, try{11, 1, 15}, try{12, 1, 15}, try{13, 1, 15}, try{14, 1, 15}, try{13, 9, 15},
		try{15, 0, -1}, try{15, 1, -1}, try{15, 2, -1}, try{15, 99, -1},
		try{0, -1, 3}, try{0, math.MinInt, 3}, try{0, math.MaxInt, 15}, try{14, math.MaxInt, 15}, try{15, math.MinInt, -1}, try{15, math.MaxInt, -1},
	)
	// What stands empty at the beginning has no line ahead of it that is not.
	hand(t, "\n\na\n\nb", "}", try{0, 1, 4}, try{1, 1, 4}, try{2, 1, 4}, try{0, 2, 6})
	// The last line may be empty itself, and start at the end.
	hand(t, "a\n", "}", try{0, 1, 2}, try{1, 1, 2}, try{0, 2, 2}, try{2, 1, -1})
	hand(t, "a\n\n", "}", try{0, 1, 2}, try{0, 2, 3}, try{2, 1, 3}, try{3, 1, -1})
	hand(t, "\n\n", "}", try{0, 1, 2}, try{1, 1, 2}, try{2, 1, -1})
	hand(t, "\n", "}", try{0, 1, 1}, try{1, 1, -1})
	hand(t, "ab", "}", try{0, 1, 2}, try{1, 1, 2}, try{1, 2, 2}, try{2, 1, -1})
	hand(t, "", "}", try{0, 0, -1}, try{0, 1, -1}, try{0, 9, -1})
}

// P18.1: { by hand: the last line of the empty ones ahead, not one of those in which one is; 0 ahead of them, and nothing from there.
func TestBack(t *testing.T) {
	// The lines are those of the test ahead.
	const s = "\u00e9\n\n\ncd\ne\n\n\n\nfg"
	hand(t, s, "{",
		try{15, 0, 12}, try{15, 1, 12}, try{14, 1, 12}, try{13, 1, 12}, try{15, 2, 4}, try{13, 2, 4}, try{15, 3, 0}, try{15, 4, 0}, try{15, 99, 0},
		try{12, 1, 4}, try{11, 1, 4}, try{10, 1, 4}, try{9, 1, 4}, try{8, 1, 4}, try{7, 1, 4}, try{5, 1, 4}, try{12, 2, 0}, try{5, 3, 0},
		try{4, 1, 0}, try{3, 1, 0}, try{2, 1, 0}, try{4, 9, 0},
		try{0, 0, -1}, try{0, 1, -1}, try{0, 2, -1}, try{0, 99, -1},
		try{15, -1, 12}, try{15, math.MinInt, 12}, try{15, math.MaxInt, 0}, try{2, math.MaxInt, 0}, try{0, math.MinInt, -1}, try{0, math.MaxInt, -1},
	)
	// The first line may be empty itself.
	hand(t, "\na", "{", try{2, 1, 0}, try{1, 1, 0}, try{2, 2, 0}, try{0, 1, -1})
	hand(t, "\n\na", "{", try{3, 1, 1}, try{2, 1, 1}, try{3, 2, 0}, try{1, 1, 0}, try{0, 1, -1})
	// What stands empty at the end has no line behind it that is not.
	hand(t, "a\n\nb\n\n", "{", try{6, 1, 2}, try{5, 1, 2}, try{4, 1, 2}, try{3, 1, 2}, try{6, 2, 0})
	hand(t, "\n\n", "{", try{2, 1, 0}, try{1, 1, 0}, try{0, 1, -1})
	hand(t, "\n", "{", try{1, 1, 0}, try{0, 1, -1})
	hand(t, "ab", "{", try{2, 1, 0}, try{1, 1, 0}, try{2, 2, 0}, try{0, 1, -1})
	hand(t, "", "{", try{0, 0, -1}, try{0, 1, -1}, try{0, 9, -1})
}

// P18.2: blocks by hand: of each line, from all its places; with all by the one behind, and of the last block by the one ahead.
func TestBlock(t *testing.T) {
	// The lines start at 0, 3 (empty), 4 (empty), 5, 8, 10 (empty), 11 (empty), 12 (empty), 13; the end is at 15.
	const s = "\u00e9\n\n\ncd\ne\n\n\n\nfg"
	for _, x := range []struct {
		places  []int
		a, b, c int
	}{
		{[]int{0, 2}, 0, 0, 2}, {[]int{3, 4}, 1, 2, 4}, {[]int{5, 6, 7, 8, 9}, 3, 4, 7}, {[]int{10, 11, 12}, 5, 7, 8},
	} {
		for _, p := range x.places {
			block(t, s, p, false, x.a, x.b)
			block(t, s, p, true, x.a, x.c)
		}
	}
	for _, p := range []int{13, 14, 15} {
		block(t, s, p, false, 8, 8)
		block(t, s, p, true, 5, 8)
	}
}

// P18.2: a block alone is as it is with all, too; the last one may be empty, and be the line behind the last line feed.
func TestBlockAlone(t *testing.T) {
	for _, all := range []bool{false, true} {
		block(t, "", 0, all, 0, 0)
		block(t, "ab", 0, all, 0, 0)
		block(t, "ab", 2, all, 0, 0)
		for p := range 3 {
			block(t, "\n\n", p, all, 0, 2)
		}
		for p := range 6 {
			block(t, "ab\ncd", p, all, 0, 1)
		}
	}
	for p := range 2 {
		block(t, "a\n", p, false, 0, 0)
		block(t, "a\n", p, true, 0, 1)
	}
	block(t, "a\n", 2, false, 1, 1)
	block(t, "a\n", 2, true, 0, 1)
	block(t, "\n\na", 2, false, 2, 2)
	block(t, "\n\na", 2, true, 0, 2)
	block(t, "\n\na", 0, false, 0, 1)
	block(t, "\n\na", 0, true, 0, 2)
}

// P18.1, P18.2: lines of blanks, or of what ends lines elsewhere, have runes: they are not empty.
func TestNotEmpty(t *testing.T) {
	for _, r := range []string{" ", "\t", "\r", "\v", "\f", "\x00", "\u0085", "\u00a0", "\u2028", "\u2029", "\u200b", "\u3000", "\ufeff", "{", "}"} {
		s := "a\n" + r + "\nb"
		leads(t, s, 0, "}", 1, len(s))
		leads(t, s, len(s), "{", 1, 0)
		block(t, s, 0, false, 0, 2)
		block(t, s, 2, true, 0, 2)
		block(t, r, 0, false, 0, 0)
	}
}

// P18.1, P18.2: the chapter's example.
func TestExample(t *testing.T) {
	const s = "a\n\nb"
	hand(t, s, "}", try{0, 1, 2}, try{2, 1, 4})
	block(t, s, 0, false, 0, 0)
	block(t, s, 0, true, 0, 1)
}

// P18.1, P18.2: all motions and blocks, from all places, with all counts, in all texts.
func TestTexts(t *testing.T) {
	for _, s := range texts() {
		for _, p := range places(s) {
			for _, key := range keys() {
				for n := -1; n <= strings.Count(s, "\n")+2; n++ {
					leads(t, s, p, key, n, wantGo(s, p, key, n))
				}
			}
			for _, all := range []bool{false, true} {
				a, b := wantBlock(s, p, all)
				block(t, s, p, all, a, b)
			}
		}
		if t.Failed() {
			t.FailNow()
		}
	}
}

// P18.1, P18.2: longer texts, put together by chance.
func TestLonger(t *testing.T) {
	r := rand.New(rand.NewSource(18))
	runes := []string{"\n", "\n", "\n", "a", "b ", "\u00e9", "\u20ac\n", " "}
	for range 5000 {
		s := ""
		for range r.Intn(80) {
			s += runes[r.Intn(len(runes))]
		}
		l := places(s)
		p, n := l[r.Intn(len(l))], r.Intn(12)-1
		for _, key := range keys() {
			leads(t, s, p, key, n, wantGo(s, p, key, n))
		}
		for _, all := range []bool{false, true} {
			a, b := wantBlock(s, p, all)
			block(t, s, p, all, a, b)
		}
	}
}

// P18.1: a far count is as one just above all that there is; one below 1 is 1.
func TestFarCounts(t *testing.T) {
	for _, s := range made([]string{"a", "\n"}, 6) {
		for _, p := range places(s) {
			for _, key := range keys() {
				for _, n := range append(far(), 99, 0, -1) {
					leads(t, s, p, key, n, wantGo(s, p, key, min(n, len(s)+3)))
				}
			}
		}
	}
}

// P18.1: what is no key of the two leads nowhere.
func TestNoKey(t *testing.T) {
	for _, key := range noKeys() {
		for _, s := range []string{"", "a", "a\n\nb\n\nc", "\n\na\n\n"} {
			for _, p := range places(s) {
				for _, n := range []int{-1, 0, 1, 2, 99} {
					leads(t, s, p, key, n, -1)
				}
			}
		}
	}
}

// P18.1, P18.2: from what is no place nothing is told: ahead of the text, behind it, inside a rune.
func TestNoPlace(t *testing.T) {
	const s = "a\u00e9\n\n\u20ac\n\n\U0001f600\n\n"
	for _, p := range append(far(), -2, -1, 2, 6, 7, 11, 12, 13, 17, 18) {
		for _, key := range keys() {
			for _, n := range []int{-1, 0, 1, 2, 99} {
				leads(t, s, p, key, n, -1)
			}
		}
		block(t, s, p, false, -1, -1)
		block(t, s, p, true, -1, -1)
	}
	for _, p := range append(far(), -1, 1, 2) {
		for _, key := range keys() {
			leads(t, "", p, key, 1, -1)
		}
		block(t, "", p, false, -1, -1)
		block(t, "", p, true, -1, -1)
	}
}

// P18.1, P18.2: in what is not valid nothing is told, not even where what is wrong is in another line.
func TestNotValid(t *testing.T) {
	for _, s := range wrong() {
		if utf8.ValidString(s) {
			t.Fatalf("%q is valid", s)
		}
		for p := -1; p <= len(s)+1; p++ {
			for _, key := range keys() {
				for _, n := range []int{0, 1, 2} {
					leads(t, s, p, key, n, -1)
				}
			}
			block(t, s, p, false, -1, -1)
			block(t, s, p, true, -1, -1)
		}
	}
}

// P18.3: n times is once, n times, till one fails, which is at the text's end and at 0; each step goes further.
func TestOnceNTimes(t *testing.T) {
	for _, s := range texts() {
		for _, p := range places(s) {
			for _, key := range keys() {
				at := p
				for n := 1; ; n++ {
					to, ok := para.Go(s, at, key, 1)
					if !ok {
						break
					}
					if key == "}" && to <= at || key == "{" && to >= at {
						t.Fatalf("Go(%q, %d, %q, 1): %d", s, at, key, to)
					}
					leads(t, s, p, key, n, to)
					at = to
				}
				if end := map[string]int{"}": len(s), "{": 0}[key]; at != end {
					t.Errorf("%q from %d in %q leads to %d, and no further", key, p, s, at)
				}
			}
		}
	}
}

// P18.3: blocks, one behind the other, are all lines; two that stand so are not both empty, nor both of lines with runes.
func TestAllLines(t *testing.T) {
	for _, s := range texts() {
		l, lines := rows(s), []int{}
		for next := 0; next < len(l); {
			a, b := para.Block(s, l[next].start, false)
			if a != next || b < a || b >= len(l) {
				t.Fatalf("Block(%q, %d, false): %d, %d", s, l[next].start, a, b)
			}
			if a > 0 && l[a-1].empty == l[a].empty {
				t.Errorf("Block(%q, %d, false): %d, %d, and more are ahead", s, l[next].start, a, b)
			}
			for k := a; k <= b; k++ {
				lines = append(lines, k)
				// All lines of a block tell the same.
				block(t, s, l[k].start, false, a, b)
			}
			next = b + 1
		}
		for k := range l {
			if !slices.Contains(lines, k) {
				t.Errorf("line %d of %q is of no block", k, s)
			}
		}
	}
}

// What is told hangs on nothing that was asked ahead.
func TestNothingIsKept(t *testing.T) {
	const s = "ab\n\n\u00e9\n\ncd"
	for _, other := range append(texts()[:300], wrong()...) {
		for _, key := range keys() {
			para.Go(other, len(other)/2, key, 2)
		}
		para.Block(other, 0, true)
		hand(t, s, "}", try{0, 1, 3}, try{4, 1, 7}, try{8, 1, 10})
		hand(t, s, "{", try{10, 1, 7}, try{4, 1, 3}, try{2, 1, 0})
		block(t, s, 4, false, 2, 2)
		block(t, s, 4, true, 2, 3)
	}
}

// A long text, of many blocks, of one of many lines, and of one long line.
func TestLong(t *testing.T) {
	const n = 100000
	many := strings.Repeat("a\n\n", n)
	hand(t, many, "}", try{0, n, 3*n - 1}, try{0, n - 1, 3*n - 4}, try{0, n + 1, 3 * n}, try{0, math.MaxInt, 3 * n})
	hand(t, many, "{", try{3 * n, n - 1, 2}, try{3 * n, n, 0}, try{3 * n, n - 2, 5}, try{3 * n, math.MaxInt, 0})
	block(t, many, 3, false, 2, 2)
	block(t, many, 3, true, 2, 3)
	block(t, many, 3*n, false, 2*n-1, 2*n)
	block(t, many, 3*n, true, 2*n-2, 2*n)
	for _, s := range []string{strings.Repeat("\n", n), strings.Repeat("a\n", n) + "a", strings.Repeat("\u20ac", n)} {
		hand(t, s, "}", try{0, 1, len(s)}, try{0, n, len(s)}, try{len(s), 1, -1})
		hand(t, s, "{", try{len(s), 1, 0}, try{len(s), n, 0}, try{0, 1, -1})
		block(t, s, 0, false, 0, strings.Count(s, "\n"))
		block(t, s, len(s), true, 0, strings.Count(s, "\n"))
	}
}
