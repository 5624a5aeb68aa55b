package move_test

import (
	"math"
	"math/rand"
	"slices"
	"strings"
	"testing"
	"unicode/utf8"

	"calamus/api"
	"calamus/move"
)

// keys are those of the chapter's table.
func keys() []string {
	return []string{"h", "l", "0", "^", "$", "|", "j", "k", "gg", "G"}
}

// signs are the runes of which all short texts are made: what ends a line, what First passes, and others of one to four bytes.
func signs() []string {
	return []string{"a", "\n", " ", "\t", "\u00e9", "\u20ac", "\U0001f600"}
}

// texts are valid ones: all of up to three runes, and some by hand.
func texts() []string {
	l := []string{""}
	for from, n := 0, 0; n < 3; n++ {
		to := len(l)
		for _, s := range l[from:to] {
			for _, r := range signs() {
				l = append(l, s+r)
			}
		}
		from = to
	}
	return append(l,
		"ab\ncd", "ab\n\ncd\n", "\n\n\n\n\n", "  ab\n \t\n\n\u00e9\u20ac\U0001f600d\n", "one two\n\tthree\n  \u00e9t\u00e9\n \t \n\u20ac\U0001f600\n\nx",
		// What is no line feed and no blank of layer 4, though it is elsewhere.
		"a\rb\r\n\vc\x00", "\u00a0x\n\u2028y\u0085",
		// Runes one byte of which differs from a line feed, a blank, a tab by its high bit alone.
		"\u010a\u0120\u0109\n\u2020\u208a\u2089",
	)
}

// wrong are bytes that are no valid texts.
func wrong() []string {
	l := []string{
		"\xff", "\x80", "\xc3", "\xc3a", "\xe2\x82", "\xe2\x82\n", "\xf0\x9f\x98", "\xc0\x8a", "\xc0\xa0", "\xed\xa0\x80", "\xf4\x90\x80\x80", "\u00e9\x80",
	}
	for _, s := range l {
		l = append(l, "ab\ncd\n"+s, s+"\nab\ncd", "ab\n"+s+"\ncd", "ab"+s, " \t"+s)
	}
	return l
}

// far are numbers beyond all texts, from both ends of what a number can be.
func far() []int {
	return []int{math.MinInt, math.MinInt + 1, math.MinInt32, math.MaxInt32, 1 << 32, math.MaxInt - 1, math.MaxInt}
}

// counts are those from below 1 to above all lines and runes of a text, and far ones.
func counts(s string) []int {
	l := far()
	for n := -2; n <= utf8.RuneCountInString(s)+3; n++ {
		l = append(l, n)
	}
	return l
}

// row is a line: its places, the end as well, and where First is.
type row struct {
	places []int
	first  int
}

// end is where a line ends.
func (r row) end() int {
	return r.places[len(r.places)-1]
}

// column is the place of a column of a line, cut to its start and its end.
func (r row) column(col int) int {
	return r.places[min(max(col, 0), len(r.places)-1)]
}

// rows are the lines of a text, by the language's own way through it.
func rows(t string) []row {
	l, at := []row{}, 0
	for _, s := range strings.Split(t, "\n") {
		r := row{}
		for i := range s {
			r.places = append(r.places, at+i)
		}
		r.places = append(r.places, at+len(s))
		// A line of blanks and tabs alone has its last one, one of nothing its start.
		r.first = at + max(len(s)-1, 0)
		if rest := strings.TrimLeft(s, " \t"); rest != "" {
			r.first = at + len(s) - len(rest)
		}
		l, at = append(l, r), at+len(s)+1
	}
	return l
}

// where is the line and the column of a place; false, if it is none.
func where(l []row, p int) (int, int, bool) {
	for k, r := range l {
		if col := slices.Index(r.places, p); col >= 0 {
			return k, col, true
		}
	}
	return 0, 0, false
}

// want is what the chapter's table says, gone step by step; far counts are as those that are just above all that there is.
func want(t string, p int, key string, n, want int) (int, bool) {
	l := rows(t)
	k, col, ok := where(l, p)
	if !ok {
		return 0, false
	}
	here, last := l[k], len(l)-1
	given, n := n >= 1, max(n, 1)
	step := func(from, to, by int) int {
		for i := 0; i < n && from != to; i++ {
			from += by
		}
		return from
	}
	switch key {
	case "h":
		return here.places[step(col, 0, -1)], col > 0
	case "l":
		return here.places[step(col, len(here.places)-1, 1)], col < len(here.places)-1
	case "0":
		return here.places[0], true
	case "^":
		return here.first, true
	case "$":
		for i := 1; i < n; i++ {
			if k++; k > last {
				return 0, false
			}
		}
		return l[k].end(), true
	case "|":
		return here.places[min(n-1, len(here.places)-1)], true
	case "j":
		return l[step(k, last, 1)].column(want), k < last
	case "k":
		return l[step(k, 0, -1)].column(want), k > 0
	case "G":
		if !given {
			return l[last].first, true
		}
		fallthrough
	case "gg":
		return l[min(n-1, last)].first, true
	}
	return 0, false
}

// leads holds Go against a target, or against none.
func leads(t *testing.T, s string, p int, key string, n, column, to int, ok bool) {
	t.Helper()
	if !ok {
		to = 0
	}
	if got, is := move.Go(s, p, key, n, column); got != to || is != ok {
		t.Errorf("Go(%q, %d, %q, %d, %d): %d, %t, not %d, %t", s, p, key, n, column, got, is, to, ok)
	}
}

// try is a call by hand: the place, the count, the column; the target, or -1, if the motion fails.
type try struct{ p, n, want, to int }

// hand holds calls of one key in one text against what they tell.
func hand(t *testing.T, s, key string, l ...try) {
	t.Helper()
	for _, x := range l {
		leads(t, s, x.p, key, x.n, x.want, x.to, x.to >= 0)
	}
}

// P14.1: h and l by hand: runes, not bytes; cut to the line; refused at its start and its end, but not at the other one; a line feed is not stepped over.
func TestLeftAndRight(t *testing.T) {
	// The lines go from 0 to 2, from 3 to 3, from 4 to 13.
	const s = "ab\n\na\u00e9\u20ac\U0001f600"
	hand(t, s, "h",
		try{0, 0, 0, -1}, try{0, 1, 0, -1}, try{0, 9, 0, -1}, try{1, 0, 0, 0}, try{1, 1, 0, 0}, try{2, 0, 0, 1}, try{2, 2, 0, 0}, try{2, 3, 0, 0}, try{2, 99, 7, 0},
		try{3, 0, 0, -1}, try{3, 1, 0, -1}, try{4, 0, 0, -1}, try{4, 2, 0, -1}, try{5, 1, 0, 4}, try{7, 1, 0, 5}, try{7, 2, 0, 4}, try{10, 1, 0, 7}, try{14, 1, 0, 10}, try{14, 3, 0, 5}, try{14, 4, 0, 4}, try{14, 5, 0, 4},
		try{14, -1, 0, 10}, try{14, math.MinInt, 0, 10}, try{14, math.MaxInt, 0, 4}, try{5, math.MaxInt, 0, 4},
	)
	hand(t, s, "l",
		try{0, 0, 0, 1}, try{0, 1, 0, 1}, try{0, 2, 0, 2}, try{0, 3, 0, 2}, try{0, 99, 7, 2}, try{1, 0, 0, 2}, try{2, 0, 0, -1}, try{2, 1, 0, -1}, try{2, 9, 0, -1},
		try{3, 0, 0, -1}, try{3, 1, 0, -1}, try{4, 0, 0, 5}, try{4, 2, 0, 7}, try{5, 1, 0, 7}, try{7, 1, 0, 10}, try{10, 1, 0, 14}, try{4, 4, 0, 14}, try{4, 5, 0, 14}, try{14, 0, 0, -1}, try{14, 2, 0, -1},
		try{4, -1, 0, 5}, try{4, math.MinInt, 0, 5}, try{4, math.MaxInt, 0, 14}, try{10, math.MaxInt, 0, 14},
	)
}

// P14.1: 0, ^, $ and | by hand: 0 and ^ don't mind the count, $ goes on by lines and is refused behind the last one, | goes to columns of runes.
func TestInTheLine(t *testing.T) {
	// The lines go from 0 to 4, from 5 to 7, from 8 to 8, from 9 to 13.
	const s = "\t ab\n \t\n\n\u00e9\u20ac"
	hand(t, s, "0", try{0, 0, 0, 0}, try{3, 0, 0, 0}, try{4, 9, 0, 0}, try{6, 0, 0, 5}, try{7, 2, 0, 5}, try{8, 0, 9, 8}, try{9, 0, 0, 9}, try{14, -1, 0, 9}, try{14, math.MaxInt, 0, 9})
	hand(t, s, "^", try{0, 0, 0, 2}, try{4, 0, 0, 2}, try{2, 3, 0, 2}, try{5, 0, 0, 6}, try{7, 0, 0, 6}, try{8, 4, 9, 8}, try{9, 0, 0, 9}, try{14, math.MaxInt, 0, 9}, try{14, math.MinInt, 0, 9})
	hand(t, s, "$",
		try{0, 0, 0, 4}, try{0, 1, 0, 4}, try{4, 0, 0, 4}, try{0, 2, 0, 7}, try{4, 3, 9, 8}, try{3, 4, 0, 14}, try{0, 5, 0, -1}, try{0, 99, 0, -1},
		try{7, 1, 0, 7}, try{8, 1, 0, 8}, try{8, 2, 0, 14}, try{8, 3, 0, -1}, try{14, 0, 0, 14}, try{14, 1, 0, 14}, try{14, 2, 0, -1},
		try{9, -1, 0, 14}, try{9, math.MinInt, 0, 14}, try{0, math.MaxInt, 0, -1}, try{14, math.MaxInt, 0, -1},
	)
	hand(t, s, "|",
		try{3, 0, 0, 0}, try{3, 1, 0, 0}, try{0, 2, 0, 1}, try{0, 4, 0, 3}, try{0, 5, 0, 4}, try{0, 6, 0, 4}, try{4, 99, 0, 4},
		try{8, 0, 0, 8}, try{8, 1, 0, 8}, try{8, 2, 0, 8}, try{14, 1, 7, 9}, try{14, 2, 0, 11}, try{9, 3, 0, 14}, try{9, 4, 0, 14},
		try{11, -1, 0, 9}, try{11, math.MinInt, 0, 9}, try{11, math.MaxInt, 0, 14},
	)
}

// P14.1: j and k by hand: the column that is wanted, not that of the place; the end of lines that have none such; cut to the last line and the first one, refused there.
func TestDownAndUp(t *testing.T) {
	// The lines go from 0 to 3, from 4 to 4, from 5 to 14, from 15 to 17.
	const s = "abc\n\n\u00e9\u20ac\U0001f600\nde"
	hand(t, s, "j",
		try{0, 0, 0, 4}, try{0, 1, 3, 4}, try{0, 2, 0, 5}, try{0, 2, 1, 7}, try{3, 2, 2, 10}, try{0, 2, 3, 14}, try{0, 2, 4, 14}, try{0, 2, api.MaxWant, 14},
		try{0, 3, 1, 16}, try{0, 4, 1, 16}, try{0, 99, 9, 17}, try{4, 0, 2, 10}, try{5, 1, 0, 15}, try{14, 9, 1, 16},
		try{15, 0, 0, -1}, try{15, 1, 0, -1}, try{17, 9, 1, -1},
		try{0, -1, 0, 4}, try{0, math.MinInt, 0, 4}, try{4, math.MaxInt, 1, 16}, try{0, 2, math.MaxInt, 14}, try{0, 2, -1, 5}, try{0, 2, math.MinInt, 5},
	)
	hand(t, s, "k",
		try{15, 0, 0, 5}, try{17, 1, 1, 7}, try{15, 1, 2, 10}, try{15, 1, 3, 14}, try{15, 0, api.MaxWant, 14}, try{15, 2, 9, 4}, try{15, 3, 2, 2}, try{15, 3, 3, 3}, try{15, 3, 4, 3}, try{15, 4, 1, 1}, try{15, 99, 9, 3},
		try{4, 0, 1, 1}, try{4, 7, 0, 0}, try{14, 1, 5, 4},
		try{0, 0, 0, -1}, try{0, 1, 0, -1}, try{3, 9, 2, -1},
		try{15, -1, 0, 5}, try{15, math.MinInt, 0, 5}, try{5, math.MaxInt, 1, 1}, try{15, 1, math.MaxInt, 14}, try{15, 1, -1, 5}, try{15, 1, math.MinInt, 5},
	)
	// A line feed at the end ends a line, and begins another one.
	hand(t, "ab\n", "j", try{0, 0, 1, 3}, try{2, 1, 0, 3}, try{3, 1, 0, -1})
	hand(t, "ab\n", "k", try{3, 0, 1, 1}, try{3, 1, 9, 2}, try{2, 1, 0, -1})
	hand(t, "", "j", try{0, 0, 0, -1}, try{0, 1, 1, -1})
	hand(t, "", "k", try{0, 0, 0, -1}, try{0, 1, 1, -1})
}

// P14.1: gg and G by hand: numbers of lines from 1 on, cut to the last one; without one the first, the last.
func TestTopAndBottom(t *testing.T) {
	// The lines start at 0, 5, 8, 9.
	const s = "\t ab\n \t\n\n \u00e9"
	for _, p := range []int{0, 3, 4, 6, 8, 9, 12} {
		hand(t, s, "gg", try{p, 0, 0, 2}, try{p, 1, 0, 2}, try{p, 2, 0, 6}, try{p, 3, 9, 8}, try{p, 4, 0, 10}, try{p, 5, 0, 10}, try{p, 99, 0, 10}, try{p, -1, 0, 2}, try{p, math.MinInt, 0, 2}, try{p, math.MaxInt, 0, 10})
		hand(t, s, "G", try{p, 0, 0, 10}, try{p, 1, 0, 2}, try{p, 2, 0, 6}, try{p, 3, 9, 8}, try{p, 4, 0, 10}, try{p, 5, 0, 10}, try{p, 99, 0, 10}, try{p, -1, 0, 10}, try{p, math.MinInt, 0, 10}, try{p, math.MaxInt, 0, 10})
	}
	hand(t, "ab\n", "G", try{0, 0, 0, 3}, try{0, 1, 0, 0}, try{0, 2, 0, 3}, try{0, 3, 0, 3})
	hand(t, "", "gg", try{0, 0, 0, 0}, try{0, 1, 0, 0}, try{0, 2, 0, 0})
	hand(t, "", "G", try{0, 0, 0, 0}, try{0, 1, 0, 0}, try{0, 2, 0, 0})
}

// P14.1: the chapter's example, and what the empty text tells of each key.
func TestExample(t *testing.T) {
	hand(t, "ab\ncd", "j", try{0, 0, 1, 4}, try{0, 1, 1, 4})
	hand(t, "ab\ncd", "l", try{0, 9, 0, 2})
	for _, key := range keys() {
		_, fails := map[string]int{"h": 0, "l": 0, "j": 0, "k": 0}[key]
		leads(t, "", 0, key, 0, 0, 0, !fails)
		leads(t, "", 0, key, 1, 0, 0, !fails)
		leads(t, "", 0, key, math.MaxInt, math.MaxInt, 0, !fails && key != "$")
	}
}

// P14.1: all motions, from all places and from what is none, with all counts, in all texts.
func TestGo(t *testing.T) {
	for _, s := range texts() {
		for p := -2; p <= len(s)+2; p++ {
			for _, n := range counts(s) {
				for _, key := range keys() {
					// A far count is as one just above all that there is.
					near := min(n, len(s)+5)
					to, ok := want(s, p, key, near, 1)
					leads(t, s, p, key, n, 1, to, ok)
				}
			}
		}
		if t.Failed() {
			t.FailNow()
		}
	}
}

// P14.1: j and k to all columns, in all texts.
func TestColumns(t *testing.T) {
	for _, s := range texts() {
		for p := range len(s) + 1 {
			for _, column := range counts(s) {
				for n := range strings.Count(s, "\n") + 2 {
					for _, key := range []string{"j", "k"} {
						to, ok := want(s, p, key, n, column)
						leads(t, s, p, key, n, column, to, ok)
					}
				}
			}
		}
		if t.Failed() {
			t.FailNow()
		}
	}
}

// P14.1: longer texts, put together by chance; other motions than j and k don't mind the column.
func TestLonger(t *testing.T) {
	r := rand.New(rand.NewSource(14))
	for range 3000 {
		s := ""
		for range r.Intn(60) {
			s += signs()[r.Intn(len(signs()))]
		}
		p, n, column := r.Intn(len(s)+1), r.Intn(12)-1, r.Intn(12)-1
		for _, key := range keys() {
			to, ok := want(s, p, key, n, column)
			leads(t, s, p, key, n, column, to, ok)
			if key != "j" && key != "k" {
				leads(t, s, p, key, n, -column, to, ok)
			}
		}
	}
}

// P14.1: from what is no place no motion leads anywhere: ahead of the text, behind it, inside a rune.
func TestNoPlace(t *testing.T) {
	const s = "a\u00e9\n\u20ac\n\U0001f600"
	for _, key := range keys() {
		for _, p := range append(far(), -2, -1, 2, 5, 6, 9, 10, 11, 13, 14) {
			for _, n := range []int{-1, 0, 1, 2, 99} {
				leads(t, s, p, key, n, 1, 0, false)
			}
		}
		for _, p := range []int{-1, 1, 2} {
			leads(t, "", p, key, 0, 0, 0, false)
		}
	}
}

// P14.1: in what is not valid no motion leads anywhere, not even where what is wrong is in another line.
func TestNotValid(t *testing.T) {
	for _, s := range wrong() {
		if utf8.ValidString(s) {
			t.Fatalf("%q is valid", s)
		}
		for p := -1; p <= len(s)+1; p++ {
			for _, key := range keys() {
				for _, n := range []int{0, 1, 2} {
					leads(t, s, p, key, n, 1, 0, false)
				}
			}
		}
	}
}

// noKeys are texts that are no motions' keys: other keys, parts of keys, several of them, and with something ahead or behind.
func noKeys() []string {
	l := []string{"", "g", "ggg", "g g", "GG", "gG", "Gg", "H", "L", "J", "K", "-", "_", "+", "\x08", "\x0d", "\x1b", "%", "w", "{", "}", ";", "f", "1", "00", "0\x00", "\u00a6", "\u2502", "\uff47\uff47", "\xff"}
	for _, a := range keys() {
		for _, b := range keys() {
			l = append(l, a+b)
		}
		l = append(l, a+" ", " "+a, "1"+a, a+"\n", a+"\x00", a+"\xff", "d"+a)
	}
	for a := range 256 {
		l = append(l, string([]byte{byte(a)}), string(rune(a)))
		for b := range 128 {
			l = append(l, string([]byte{byte(a), byte(b)}))
		}
	}
	return slices.DeleteFunc(l, func(s string) bool { return slices.Contains(keys(), s) })
}

// P14.2, P14.1: the table's keys are motions', and no others; others lead nowhere.
func TestHas(t *testing.T) {
	for _, key := range keys() {
		if !move.Has(key) || !move.Has(strings.Clone(key)) {
			t.Errorf("%q is none", key)
		}
	}
	for _, key := range noKeys() {
		if move.Has(key) {
			t.Errorf("%q is one", key)
		}
		leads(t, "ab\ncd\nef", 4, key, 0, 0, 0, false)
		leads(t, "ab\ncd\nef", 4, key, 1, 1, 0, false)
	}
}

// P14.3: targets are places, of all motions, with all counts and columns, in all texts.
func TestTargetsArePlaces(t *testing.T) {
	for _, s := range texts() {
		l := rows(s)
		for p := range len(s) + 1 {
			for _, key := range keys() {
				for _, n := range counts(s) {
					to, ok := move.Go(s, p, key, n, n)
					if _, _, is := where(l, to); ok && !is {
						t.Errorf("Go(%q, %d, %q, %d, %d): %d is no place", s, p, key, n, n, to)
					}
				}
			}
		}
	}
}

// back holds two motions with one count against the place from which the first one began.
func back(t *testing.T, s string, p int, there, here string, n, column int) {
	t.Helper()
	to, ok := move.Go(s, p, there, n, column)
	if !ok {
		t.Errorf("Go(%q, %d, %q, %d, %d) fails", s, p, there, n, column)
		return
	}
	leads(t, s, to, here, n, column, p, true)
}

// P14.3: h leads back behind l, and l behind h; k behind j, and j behind k, to the column of the place, by as many as there are.
func TestBack(t *testing.T) {
	for _, s := range texts() {
		l := rows(s)
		for k, r := range l {
			for col, p := range r.places {
				for n := 1; n <= len(r.places)-1-col; n++ {
					back(t, s, p, "l", "h", n, 0)
				}
				for n := 1; n <= col; n++ {
					back(t, s, p, "h", "l", n, 0)
				}
				for n := 1; n <= len(l)-1-k; n++ {
					back(t, s, p, "j", "k", n, col)
				}
				for n := 1; n <= k; n++ {
					back(t, s, p, "k", "j", n, col)
				}
			}
		}
	}
}

// What is told hangs on nothing that was asked ahead.
func TestNothingIsKept(t *testing.T) {
	const s = "ab\n\u00e9\n\n  cd"
	type answer struct {
		to int
		ok bool
	}
	told := map[string]answer{}
	for _, key := range keys() {
		to, ok := move.Go(s, 3, key, 1, 1)
		told[key] = answer{to, ok}
	}
	for _, other := range keys() {
		move.Go("\n"+s, 7, other, 2, 5)
		move.Go("\xff", 0, other, 1, 0)
		for _, key := range keys() {
			leads(t, s, 3, key, 1, 1, told[key].to, told[key].ok)
		}
	}
}

// A long text, of long lines and of many, and counts that are far above it.
func TestLong(t *testing.T) {
	const n = 100000
	long := strings.Repeat("\u20ac", n) + "\n" + strings.Repeat(" ", n)
	hand(t, long, "l", try{0, n, 0, 3 * n}, try{3, math.MaxInt, 0, 3 * n}, try{0, n - 1, 0, 3*n - 3})
	hand(t, long, "h", try{3 * n, n, 0, 0}, try{3 * n, n - 1, 0, 3}, try{3 * n, math.MaxInt, 0, 0})
	hand(t, long, "|", try{3, n, 0, 3*n - 3}, try{3, n + 1, 0, 3 * n}, try{3, math.MaxInt, 0, 3 * n})
	hand(t, long, "^", try{4*n + 1, 0, 0, 4 * n})
	hand(t, long, "j", try{0, 1, n - 1, 4 * n}, try{0, math.MaxInt, math.MaxInt, 4*n + 1})
	many := strings.Repeat("a\n", n)
	hand(t, many, "j", try{0, n, 0, 2 * n}, try{0, n - 1, 9, 2*n - 1}, try{1, math.MaxInt, 1, 2 * n})
	hand(t, many, "k", try{2 * n, n, 1, 1}, try{2 * n, n - 1, 0, 2}, try{2 * n, math.MaxInt, 0, 0})
	hand(t, many, "$", try{0, n, 0, 2*n - 1}, try{0, n + 1, 0, 2 * n}, try{0, n + 2, 0, -1}, try{0, math.MaxInt, 0, -1})
	hand(t, many, "gg", try{1, n, 0, 2*n - 2}, try{1, n + 1, 0, 2 * n}, try{1, math.MaxInt, 0, 2 * n})
	hand(t, many, "G", try{1, 0, 0, 2 * n}, try{1, n, 0, 2*n - 2}, try{1, 1, 0, 0})
}
