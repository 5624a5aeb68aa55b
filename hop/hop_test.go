package hop_test

import (
	"math"
	"math/rand"
	"regexp"
	"slices"
	"strings"
	"testing"
	"unicode/utf8"

	"calamus/hop"
)

// keys are those of the chapter's table.
func keys() []string {
	return []string{"w", "W", "b", "B", "e", "E"}
}

// signs are the runes of which all short texts are made: of each class one or two, and of one to four bytes.
func signs() []string {
	return []string{"a", "_", "+", " ", "\t", "\n", "\u00e9", "\u20ac", "\U0001f600"}
}

// texts are valid ones: all of up to three runes, all of up to six of one rune a class, and some by hand.
func texts() []string {
	return append(append(made(signs(), 3), made([]string{"a", "+", " ", "\n"}, 6)...),
		"ab, c", "ab+c \u00e9\n\n  x", "\n\n\n\n\n", "one, two\n\t(three)\n  \u00e9t\u00e9!\n \t \n\u20ac\U0001f600--\n", "a_9 \t+-\u00e9\nB\n\n", " \n \n", "aZ09_bY\u00e9/:@[^`{~!\"#$%&'()*+,-.;<=>?\\]|}",
		// What is no line feed and no blank of layer 5, though it is elsewhere.
		"a\rb\r\n\r\nc\vd\fe\x00f", "\r\n\v\f\x00", "a\u0085\u2028\u2029\u00a0\u3000+", "\x7f\n\x1f",
		// Runes one byte of which differs from a line feed, a blank, a tab, a sign by its high bit alone.
		"\u010a\u0120\u0109+\u2020\u208a\u2089 \u20a0\u00ab", "\u010a\u010a\n\u010a",
		// The rune that the language tells in the place of what is not valid, here a rune as others.
		"\ufffd\ufffd +\ufffd",
	)
}

// made are all texts of up to n of these runes.
func made(runes []string, n int) []string {
	l := []string{""}
	for from := 0; n > 0; n-- {
		to := len(l)
		for _, s := range l[from:to] {
			for _, r := range runes {
				l = append(l, s+r)
			}
		}
		from = to
	}
	return l
}

// wrong are bytes that are no valid texts.
func wrong() []string {
	l := []string{
		"\xff", "\x80", "\xc3", "\xc3a", "\xe2\x82", "\xe2\x82\n", "\xf0\x9f\x98", "\xc0\x8a", "\xc0\xa0", "\xed\xa0\x80", "\xf4\x90\x80\x80", "\u00e9\x80",
	}
	for _, s := range l {
		l = append(l, "ab+ cd"+s, s+" ab+\ncd", "ab\n\n"+s+"\ncd", " "+s, s+"\n", "\n"+s)
	}
	return l
}

// far are numbers beyond all texts, from both ends of what a number can be.
func far() []int {
	return []int{math.MinInt, math.MinInt + 1, math.MinInt32, math.MaxInt32, 1 << 32, math.MaxInt - 1, math.MaxInt}
}

// counts are those from below 1 to above all words of a text, and far ones.
func counts(s string) []int {
	l := far()
	for n := -2; n <= utf8.RuneCountInString(s)+3; n++ {
		l = append(l, n)
	}
	return l
}

// plain and great are the words, those of classes and those of great classes.
var (
	plain = regexp.MustCompile(`[a-zA-Z0-9_\x{80}-\x{10FFFF}]+|[^a-zA-Z0-9_\x{80}-\x{10FFFF} \t\n]+`)
	great = regexp.MustCompile(`[^ \t\n]+`)
)

// ways are the starts and the ends of a valid text's words, line by line.
func ways(t string, big bool) (starts, ends []int) {
	word, at := plain, 0
	if big {
		word = great
	}
	for _, s := range strings.Split(t, "\n") {
		if s == "" {
			starts = append(starts, at)
		}
		for _, m := range word.FindAllStringIndex(s, -1) {
			_, n := utf8.DecodeLastRuneInString(s[:m[1]])
			starts, ends = append(starts, at+m[0]), append(ends, at+m[1]-n)
		}
		at += len(s) + 1
	}
	return starts, ends
}

// least is the least of some numbers above p, if there is one.
func least(l []int, p int) (int, bool) {
	l = slices.DeleteFunc(slices.Clone(l), func(q int) bool { return q <= p })
	if len(l) == 0 {
		return 0, false
	}
	return slices.Min(l), true
}

// greatest is the greatest of some numbers below p, if there is one.
func greatest(l []int, p int) (int, bool) {
	l = slices.DeleteFunc(slices.Clone(l), func(q int) bool { return q >= p })
	if len(l) == 0 {
		return 0, false
	}
	return slices.Max(l), true
}

// once is what the chapter's table says of one step, of a text of that many bytes with these starts and ends.
func once(n int, starts, ends []int, p int, key string) (int, bool) {
	switch key {
	case "w", "W":
		if p == n {
			return 0, false
		}
		if to, ok := least(starts, p); ok {
			return to, true
		}
		return n, true
	case "b", "B":
		return greatest(starts, p)
	case "e", "E":
		return least(ends, p)
	}
	return 0, false
}

// places are where a valid text's runes begin, and its end.
func places(t string) []int {
	l := []int{}
	for p := range t {
		l = append(l, p)
	}
	return append(l, len(t))
}

// book keeps what the chapter says of one text, so that it is not made anew for each motion.
type book struct {
	text string
	at   []int
	of   map[bool][2][]int
}

// read makes the book of a text.
func read(t string) book {
	b := book{t, places(t), map[bool][2][]int{}}
	for _, big := range []bool{false, true} {
		starts, ends := ways(t, big)
		b.of[big] = [2][]int{starts, ends}
	}
	return b
}

// want is what the chapter's table says, gone step by step, till there is no further one.
func (b book) want(p int, key string, n int) (int, bool) {
	if !slices.Contains(b.at, p) {
		return 0, false
	}
	l := b.of[key < "a"]
	to, ok := once(len(b.text), l[0], l[1], p, key)
	if !ok {
		return 0, false
	}
	for i := 1; i < n; i++ {
		next, ok := once(len(b.text), l[0], l[1], to, key)
		if !ok {
			break
		}
		to = next
	}
	return to, true
}

// leads holds Go against a target, or against none.
func leads(t *testing.T, s string, p int, key string, n, to int, ok bool) {
	t.Helper()
	if !ok {
		to = 0
	}
	if got, is := hop.Go(s, p, key, n); got != to || is != ok {
		t.Errorf("Go(%q, %d, %q, %d): %d, %t, not %d, %t", s, p, key, n, got, is, to, ok)
	}
}

// try is a call by hand: the place, the count; the target, or -1, if the motion fails.
type try struct{ p, n, to int }

// hand holds calls of one key in one text against what they tell.
func hand(t *testing.T, s, key string, l ...try) {
	t.Helper()
	for _, x := range l {
		leads(t, s, x.p, key, x.n, x.to, x.to >= 0)
	}
}

// tells holds Starts and Ends against what they tell.
func tells(t *testing.T, s string, big bool, starts, ends []int) {
	t.Helper()
	if l := hop.Starts(s, big); !slices.Equal(l, starts) {
		t.Errorf("Starts(%q, %t): %d, not %d", s, big, l, starts)
	}
	if l := hop.Ends(s, big); !slices.Equal(l, ends) {
		t.Errorf("Ends(%q, %t): %d, not %d", s, big, l, ends)
	}
}

// P15.1: words by hand: of one class, or of one great class; lines without runes have a start and no end, the last one as well; a line of blanks has none.
func TestWordsByHand(t *testing.T) {
	for _, x := range []struct {
		text         string
		starts, ends []int
		great, tails []int
	}{
		{"", []int{0}, nil, []int{0}, nil},
		{"a", []int{0}, []int{0}, []int{0}, []int{0}},
		{" ", nil, nil, nil, nil},
		{" \t ", nil, nil, nil, nil},
		{"\n", []int{0, 1}, nil, []int{0, 1}, nil},
		{"\n\n", []int{0, 1, 2}, nil, []int{0, 1, 2}, nil},
		{" \n\t", nil, nil, nil, nil},
		{" \n", []int{2}, nil, []int{2}, nil},
		{"\n ", []int{0}, nil, []int{0}, nil},
		{"a\n", []int{0, 2}, []int{0}, []int{0, 2}, []int{0}},
		{"a\nb", []int{0, 2}, []int{0, 2}, []int{0, 2}, []int{0, 2}},
		{"\na", []int{0, 1}, []int{1}, []int{0, 1}, []int{1}},
		{"ab, c", []int{0, 2, 4}, []int{1, 2, 4}, []int{0, 4}, []int{2, 4}},
		{"ab+-cd", []int{0, 2, 4}, []int{1, 3, 5}, []int{0}, []int{5}},
		{"\u00e9t\u00e9, \u20ac\U0001f600!", []int{0, 5, 7, 14}, []int{3, 5, 10, 14}, []int{0, 7}, []int{5, 14}},
		{"+\u20ac", []int{0, 1}, []int{0, 1}, []int{0}, []int{1}},
		{"a\r\n\r\nb", []int{0, 1, 3, 5}, []int{0, 1, 3, 5}, []int{0, 3, 5}, []int{1, 3, 5}},
		{"  x \n\n\n y", []int{2, 5, 6, 8}, []int{2, 8}, []int{2, 5, 6, 8}, []int{2, 8}},
	} {
		tells(t, x.text, false, x.starts, x.ends)
		tells(t, x.text, true, x.great, x.tails)
	}
}

// P15.1: starts and ends of all texts.
func TestWords(t *testing.T) {
	for _, s := range texts() {
		for _, big := range []bool{false, true} {
			starts, ends := ways(s, big)
			tells(t, s, big, starts, ends)
		}
	}
}

// P15.1: starts and ends with each rune of one byte between a letter and a sign.
func TestAllBytes(t *testing.T) {
	for b := range 128 {
		s := "a" + string(rune(b)) + "+"
		for _, big := range []bool{false, true} {
			starts, ends := ways(s, big)
			tells(t, s, big, starts, ends)
		}
	}
}

// P15.1: what is not valid has no words, not even where what is wrong is in another line.
func TestWordsNotValid(t *testing.T) {
	for _, s := range wrong() {
		if utf8.ValidString(s) {
			t.Fatalf("%q is valid", s)
		}
		tells(t, s, false, nil, nil)
		tells(t, s, true, nil, nil)
	}
}

// P15.2: w and W by hand: to starts of words and of lines without runes, then to the text's end, and no further; refused there.
func TestOn(t *testing.T) {
	const s = "ab+c \u00e9\n\n  x"
	hand(t, s, "w",
		try{0, 0, 2}, try{0, 1, 2}, try{1, 1, 2}, try{0, 2, 3}, try{0, 3, 5}, try{0, 4, 8}, try{0, 5, 11}, try{0, 6, 12}, try{0, 7, 12}, try{0, 99, 12}, try{2, 0, 3},
		try{4, 1, 5}, try{5, 1, 8}, try{7, 1, 8}, try{8, 1, 11}, try{9, 1, 11}, try{11, 0, 12}, try{11, 9, 12}, try{12, 0, -1}, try{12, 1, -1}, try{12, 9, -1},
		try{0, -1, 2}, try{0, math.MinInt, 2}, try{0, math.MaxInt, 12}, try{11, math.MaxInt, 12}, try{12, math.MaxInt, -1},
	)
	hand(t, s, "W",
		try{0, 0, 5}, try{0, 1, 5}, try{2, 1, 5}, try{3, 0, 5}, try{0, 2, 8}, try{0, 3, 11}, try{0, 4, 12}, try{0, 5, 12}, try{8, 1, 11}, try{11, 1, 12}, try{12, 1, -1},
		try{0, -1, 5}, try{0, math.MinInt, 5}, try{0, math.MaxInt, 12}, try{12, math.MaxInt, -1},
	)
	// Behind the last word there are blanks, or a line without runes, which starts at the text's end.
	hand(t, "ab  ", "w", try{0, 1, 4}, try{2, 1, 4}, try{3, 2, 4}, try{4, 1, -1})
	hand(t, "ab\n", "w", try{0, 1, 3}, try{0, 2, 3}, try{2, 1, 3}, try{3, 1, -1})
	hand(t, "\n\n", "w", try{0, 1, 1}, try{0, 2, 2}, try{0, 3, 2}, try{1, 1, 2}, try{2, 1, -1})
	hand(t, "  ", "w", try{0, 1, 2}, try{1, 1, 2}, try{2, 1, -1})
	hand(t, "  ", "W", try{0, 1, 2}, try{2, 1, -1})
}

// P15.2: b and B by hand: to starts, the own word's as well; no further than the first one, and refused where none is ahead.
func TestBack(t *testing.T) {
	const s = "ab+c \u00e9\n\n  x"
	hand(t, s, "b",
		try{12, 0, 11}, try{12, 1, 11}, try{12, 2, 8}, try{12, 3, 5}, try{12, 4, 3}, try{12, 5, 2}, try{12, 6, 0}, try{12, 7, 0}, try{12, 99, 0}, try{11, 1, 8}, try{10, 1, 8}, try{9, 1, 8}, try{8, 1, 5},
		try{7, 1, 5}, try{5, 1, 3}, try{4, 0, 3}, try{3, 1, 2}, try{2, 1, 0}, try{1, 1, 0}, try{1, 2, 0}, try{0, 0, -1}, try{0, 1, -1}, try{0, 9, -1},
		try{12, -1, 11}, try{12, math.MinInt, 11}, try{12, math.MaxInt, 0}, try{1, math.MaxInt, 0}, try{0, math.MaxInt, -1},
	)
	hand(t, s, "B",
		try{12, 1, 11}, try{12, 2, 8}, try{12, 3, 5}, try{12, 4, 0}, try{12, 5, 0}, try{5, 1, 0}, try{4, 1, 0}, try{3, 1, 0}, try{2, 1, 0}, try{0, 1, -1},
		try{12, -1, 11}, try{12, math.MinInt, 11}, try{12, math.MaxInt, 0}, try{0, math.MaxInt, -1},
	)
	// Ahead of the first word are blanks: there is no start.
	hand(t, "  ab", "b", try{4, 1, 2}, try{4, 2, 2}, try{3, 1, 2}, try{2, 1, -1}, try{1, 1, -1}, try{0, 1, -1})
	hand(t, "  ", "b", try{2, 1, -1}, try{1, 1, -1}, try{0, 1, -1})
	hand(t, "a\n", "b", try{2, 1, 0}, try{1, 1, 0}, try{0, 1, -1})
	hand(t, "\n\n", "B", try{2, 1, 1}, try{2, 2, 0}, try{2, 3, 0}, try{1, 1, 0}, try{0, 1, -1})
}

// P15.2: e and E by hand: to ends, which lines without runes have not; no further than the last one, and refused where none is behind.
func TestEnd(t *testing.T) {
	const s = "ab+c \u00e9\n\n  x"
	hand(t, s, "e",
		try{0, 0, 1}, try{0, 1, 1}, try{0, 2, 2}, try{0, 3, 3}, try{0, 4, 5}, try{0, 5, 11}, try{0, 6, 11}, try{0, 99, 11}, try{1, 1, 2}, try{2, 1, 3}, try{3, 0, 5}, try{4, 1, 5}, try{5, 1, 11},
		try{7, 1, 11}, try{8, 1, 11}, try{10, 9, 11}, try{11, 0, -1}, try{11, 1, -1}, try{12, 1, -1}, try{12, 9, -1},
		try{0, -1, 1}, try{0, math.MinInt, 1}, try{0, math.MaxInt, 11}, try{11, math.MaxInt, -1}, try{12, math.MaxInt, -1},
	)
	hand(t, s, "E",
		try{0, 1, 3}, try{1, 1, 3}, try{2, 1, 3}, try{0, 2, 5}, try{0, 3, 11}, try{0, 9, 11}, try{3, 1, 5}, try{5, 1, 11}, try{11, 1, -1}, try{12, 1, -1},
		try{0, -1, 3}, try{0, math.MinInt, 3}, try{0, math.MaxInt, 11}, try{12, math.MaxInt, -1},
	)
	// An end is the place of the last rune, not behind it, also if that has several bytes.
	hand(t, "\u20ac\U0001f600 \u00e9\u00e9", "e", try{0, 1, 3}, try{3, 1, 10}, try{8, 1, 10}, try{10, 1, -1}, try{12, 1, -1})
	hand(t, "\n\n", "e", try{0, 1, -1}, try{1, 1, -1}, try{2, 1, -1})
	hand(t, "a  ", "e", try{0, 1, -1}, try{1, 1, -1}, try{3, 1, -1})
	hand(t, "\na", "E", try{0, 1, 1}, try{1, 1, -1})
}

// P15.2: the chapter's example, and the empty text, in which all motions fail.
func TestExample(t *testing.T) {
	hand(t, "ab, c", "w", try{0, 0, 2}, try{0, 1, 2})
	hand(t, "ab, c", "W", try{0, 0, 4}, try{0, 1, 4})
	hand(t, "ab, c", "e", try{0, 0, 1}, try{0, 1, 1})
	for _, key := range keys() {
		hand(t, "", key, try{0, 0, -1}, try{0, 1, -1}, try{0, math.MaxInt, -1})
	}
}

// P15.2: all motions, from all places and from what is none, with all counts, in all texts.
func TestGo(t *testing.T) {
	for _, s := range texts() {
		b := read(s)
		for p := -2; p <= len(s)+2; p++ {
			for _, n := range counts(s) {
				for _, key := range keys() {
					// A far count is as one just above all that there is.
					to, ok := b.want(p, key, min(n, len(s)+5))
					leads(t, s, p, key, n, to, ok)
				}
			}
		}
		if t.Failed() {
			t.FailNow()
		}
	}
}

// P15.1, P15.2: longer texts, put together by chance.
func TestLonger(t *testing.T) {
	r := rand.New(rand.NewSource(15))
	for range 3000 {
		s := ""
		for range r.Intn(60) {
			s += signs()[r.Intn(len(signs()))]
		}
		b := read(s)
		for big, l := range b.of {
			tells(t, s, big, l[0], l[1])
		}
		p, n := r.Intn(len(s)+1), r.Intn(12)-1
		for _, key := range keys() {
			to, ok := b.want(p, key, n)
			leads(t, s, p, key, n, to, ok)
		}
	}
}

// P15.2: from what is no place no motion leads anywhere: ahead of the text, behind it, inside a rune.
func TestNoPlace(t *testing.T) {
	const s = "a\u00e9 \u20ac\n\U0001f600"
	for _, key := range keys() {
		for _, p := range append(far(), -2, -1, 2, 5, 6, 9, 10, 11, 13, 14) {
			for _, n := range []int{-1, 0, 1, 2, 99} {
				leads(t, s, p, key, n, 0, false)
			}
		}
		for _, p := range []int{-1, 1, 2} {
			leads(t, "", p, key, 0, 0, false)
		}
	}
}

// P15.2: in what is not valid no motion leads anywhere, not even where what is wrong is in another line.
func TestNotValid(t *testing.T) {
	for _, s := range wrong() {
		for p := -1; p <= len(s)+1; p++ {
			for _, key := range keys() {
				for _, n := range []int{0, 1, 2} {
					leads(t, s, p, key, n, 0, false)
				}
			}
		}
	}
}

// noKeys are texts that are no motions' keys: other keys, several of them, and with something ahead or behind.
func noKeys() []string {
	l := []string{"", "ge", "gE", "iw", "aW", "h", "l", "0", "^", "$", "%", "{", "}", "(", ")", ";", "1w", "dw", "\uff57", "\u0432", "\xff", "wbe", "WBE", "wbeWBE"}
	for _, a := range keys() {
		for _, b := range keys() {
			l = append(l, a+b)
		}
		l = append(l, a+" ", " "+a, "1"+a, a+"\n", a+"\x00", a+"\xff", "d"+a)
	}
	for a := range 256 {
		l = append(l, string([]byte{byte(a)}), string(rune(a)))
		for b := range 128 {
			l = append(l, string([]byte{byte(a), byte(b)}))
		}
	}
	return slices.DeleteFunc(l, func(s string) bool { return slices.Contains(keys(), s) })
}

// P15.3, P15.2: the six keys are motions', and no others; others lead nowhere.
func TestHas(t *testing.T) {
	for _, key := range keys() {
		if !hop.Has(key) || !hop.Has(strings.Clone(key)) {
			t.Errorf("%q is none", key)
		}
	}
	for _, key := range noKeys() {
		if hop.Has(key) {
			t.Errorf("%q is one", key)
		}
		leads(t, "ab, cd\nef gh", 5, key, 0, 0, false)
		leads(t, "ab, cd\nef gh", 5, key, 1, 0, false)
	}
}

// P15.4: n times one motion is that motion once, n times, till it fails.
func TestTimes(t *testing.T) {
	for _, s := range texts() {
		for _, p := range places(s) {
			for _, key := range keys() {
				to, ok := hop.Go(s, p, key, 1)
				for n := 1; ok && n <= len(s)+2; n++ {
					leads(t, s, p, key, n, to, true)
					if next, more := hop.Go(s, to, key, 1); more {
						to = next
					}
				}
			}
		}
	}
}

// P15.4: targets are places, and each is a start, an end, or, of w, the text's end.
func TestTargets(t *testing.T) {
	for _, s := range texts() {
		for _, key := range keys() {
			big := key < "a"
			l := hop.Starts(s, big)
			switch key {
			case "w", "W":
				l = append(l, len(s))
			case "e", "E":
				l = hop.Ends(s, big)
			}
			for _, p := range places(s) {
				to, ok := hop.Go(s, p, key, 1)
				if ok && (!slices.Contains(l, to) || !slices.Contains(places(s), to)) {
					t.Errorf("Go(%q, %d, %q, 1): %d", s, p, key, to)
				}
			}
		}
	}
}

// bare tells whether a line without runes starts at p.
func bare(s string, p int) bool {
	return (p == 0 || s[p-1] == '\n') && (p == len(s) || s[p] == '\n')
}

// P15.4: starts and ends rise and alternate: a word's end is not ahead of its start, and ahead of the next start, those of lines without runes apart.
func TestAlternate(t *testing.T) {
	for _, s := range texts() {
		for _, big := range []bool{false, true} {
			all, ends := hop.Starts(s, big), hop.Ends(s, big)
			starts := slices.DeleteFunc(slices.Clone(all), func(p int) bool { return bare(s, p) })
			right := len(starts) == len(ends)
			for i := 0; right && i < len(starts); i++ {
				right = starts[i] <= ends[i] && (i == 0 || ends[i-1] < starts[i])
			}
			for i := 1; right && i < len(all); i++ {
				right = all[i-1] < all[i]
			}
			if !right {
				t.Errorf("%q, %t: %d and %d", s, big, all, ends)
			}
		}
	}
}

// What is told is new memory, and hangs on nothing that was asked ahead.
func TestNothingIsKept(t *testing.T) {
	const s = "ab, \u00e9\n\n  cd"
	for _, big := range []bool{false, true} {
		starts, ends := ways(s, big)
		for _, list := range []func(string, bool) []int{hop.Starts, hop.Ends} {
			a, b := list(s, big), list(s, big)
			a = append(a, 77)
			for i := range a {
				a[i] = -7
			}
			_ = append(b, 78)
			tells(t, s, big, starts, ends)
		}
	}
	b := read(s)
	for _, other := range keys() {
		hop.Go("\n"+s, 5, other, 2)
		hop.Go("\xff", 0, other, 1)
		for _, key := range keys() {
			to, ok := b.want(4, key, 1)
			leads(t, s, 4, key, 1, to, ok)
		}
	}
}

// A long text, of many words and of one, and counts that are far above it.
func TestLong(t *testing.T) {
	const n = 300000
	many := strings.Repeat("a ", n)
	hand(t, many, "w", try{0, 1, 2}, try{0, n - 1, 2*n - 2}, try{0, n, 2 * n}, try{0, n + 1, 2 * n}, try{0, math.MaxInt, 2 * n})
	hand(t, many, "b", try{2 * n, 1, 2*n - 2}, try{2 * n, n, 0}, try{2 * n, n - 1, 2}, try{2 * n, math.MaxInt, 0})
	hand(t, many, "e", try{0, 1, 2}, try{0, n - 1, 2*n - 2}, try{0, n, 2*n - 2}, try{1, n - 2, 2*n - 4}, try{0, math.MaxInt, 2*n - 2})
	one := strings.Repeat("\u20ac", n)
	hand(t, one, "w", try{0, 1, 3 * n}, try{3, 1, 3 * n})
	hand(t, one, "B", try{3 * n, 1, 0}, try{3, 1, 0}, try{3*n - 3, 9, 0})
	hand(t, one, "e", try{0, 1, 3*n - 3}, try{3*n - 3, 1, -1})
	feeds := strings.Repeat("\n", n)
	if l := hop.Starts(feeds, true); len(l) != n+1 || l[n] != n || len(hop.Ends(feeds, false)) != 0 {
		t.Error(len(l))
	}
	hand(t, feeds, "W", try{0, n - 1, n - 1}, try{0, n, n}, try{0, n + 1, n})
	hand(t, feeds, "b", try{n, n, 0}, try{n, n - 1, 1}, try{n, 1, n - 1})
}
