package thing_test

import (
	"math"
	"math/rand"
	"regexp"
	"slices"
	"strings"
	"testing"
	"unicode/utf8"

	"calamus/api"
	"calamus/thing"
)

// kinds are those of the chapter's table.
func kinds() []string {
	return []string{"w", "W", "(", ")", "b", "[", "]", "{", "}", "B", "<", ">", "\"", "'", "`", "p"}
}

// texts are valid ones: all of up to some runes of what the kinds mind, and some by hand.
func texts() []string {
	l := made([]string{"a", " ", "+", "\n"}, 5)
	l = append(l, made([]string{"\u00e9", "\t", " ", "_", "(", "\U0001f600"}, 3)...)
	l = append(l, made([]string{"(", ")", "\n"}, 5)...)
	l = append(l, made([]string{"<", ">", "[", "]", "{", "}"}, 3)...)
	l = append(l, made([]string{"\"", "a", "\n"}, 6)...)
	l = append(l, made([]string{"'", "`", "\"", "\u20ac"}, 4)...)
	l = append(l, made([]string{"a", "\n"}, 7)...)
	return append(l, byHand()...)
}

// byHand are texts as they are written.
func byHand() []string {
	return []string{
		"ab  +c (x \"y z\")\n  q\n\nend", "f(a, b)", "one two,  three\n\n  four_5 (six)\n", "if (a[1] < b[\"c\"]) {\n\tf('x', `y`)\n}\n\n<p a=\"b\">c</p>\n",
		"([)]", "([{<>}])", "a < b, c > d", "(a(b)", "a)b(c)", "'a\" 'b\"`c`", "don't 'say' it's", "\\\"a\\\"b\"", "\"a\nb\"", "\"\"\"", "''''",
		// What looks like a bracket, a quote or a blank, or has the low bits of one.
		"\uff08a\uff09(\u2018b\u2019)", "\u201ca\u201d\"b\"", "\u0128\u0129()\u015b\u015d[]\u017b\u017d{}\u013c\u013e<>", "\u0122\"\u0127'\u0160`", "a\u00a0b\u3000c d",
		// What ends no line of layer 4, though it does elsewhere.
		"a\r\n\r\nb\r\n", "\"\r\"\v(\f)\u0085\u2028{\x00}", "a \v b\x7f\x01 c",
		"\ufffd(\ufffd)\U0001f600 \"\ufffd\"",
	}
}

// made are all texts of up to n of these runes.
func made(runes []string, n int) []string {
	l := []string{""}
	for from := 0; n > 0; n-- {
		to := len(l)
		for _, s := range l[from:to] {
			for _, r := range runes {
				l = append(l, s+r)
			}
		}
		from = to
	}
	return l
}

// wrong are bytes that are no valid texts, with things ahead of what is wrong, behind it and around it.
func wrong() []string {
	l := []string{
		"\xff", "\x80", "\xc3", "\xc3a", "\xe2\x82", "\xe2\x82\n", "\xf0\x9f\x98", "\xc0\xa8", "\xe0\x80\xa2", "\xed\xa0\x80", "\xf4\x90\x80\x80", "\u00e9\x80",
	}
	for _, s := range l {
		l = append(l, "(a b)\n"+s, s+"\n\"a b\"", "({[<"+s+">]})", "\"'`"+s+"`'\"", "a\n"+s+"\nb")
	}
	return l
}

// noKinds are texts that tell no kind: none, two, several, and with something ahead or behind.
func noKinds() []string {
	l := []string{"", "()", "[]", "{}", "<>", "((", "ww", "wW", "iw", "aw", "ip", "ap", "i(", "a\"", "\"\"", "''", " w", "w ", "w\n", "p\x00", "w\xff", "\xffw", "<lt>", "word", "\uff08", "\u201c", "\u0177", "\u0170", "\u017b", "\xc1\xb7"}
	for b := range 256 {
		if k := string([]byte{byte(b)}); !slices.Contains(kinds(), k) {
			l = append(l, k)
		}
	}
	return l
}

// far are numbers beyond all texts, from both ends of what a number can be.
func far() []int {
	return []int{math.MinInt, math.MinInt + 1, math.MinInt32, math.MaxInt32, 1 << 32, math.MaxInt - 1, math.MaxInt}
}

// places are where a valid text's runes begin, and its end.
func places(t string) []int {
	l := []int{}
	for p := range t {
		l = append(l, p)
	}
	return append(l, len(t))
}

// row is a line: where it starts, and what stands in it.
type row struct {
	start int
	text  string
}

// rows are the lines of a text, by the library's own way through it.
func rows(t string) []row {
	l, at := []row{}, 0
	for _, s := range strings.Split(t, "\n") {
		l = append(l, row{at, s})
		at += len(s) + 1
	}
	return l
}

// rowOf is the number of the line of a place.
func rowOf(l []row, p int) int {
	k := 0
	for k+1 < len(l) && l[k+1].start <= p {
		k++
	}
	return k
}

var (
	plain = regexp.MustCompile(`(?:[A-Za-z0-9_]|[^\x00-\x7f])+|[ \t]+|[\x00-\x08\x0b-\x1f!-/:-@\[-^\x60{-\x7f]+`)
	great = regexp.MustCompile(`[ \t]+|[^ \t]+`)
)

// wantWord is what the chapter says of w and W: the runs of the line, and the one beside that of the place.
func wantWord(t string, p int, all bool, runs *regexp.Regexp) (api.Range, bool) {
	lines := rows(t)
	r := lines[rowOf(lines, p)]
	l := runs.FindAllStringIndex(r.text, -1)
	i := slices.IndexFunc(l, func(x []int) bool { return r.start+x[0] <= p && p < r.start+x[1] })
	if i < 0 {
		return api.Range{}, false
	}
	blank := func(i int) bool {
		return i >= 0 && i < len(l) && strings.Trim(r.text[l[i][0]:l[i][1]], " \t") == ""
	}
	a, b := i, i
	switch {
	case !all:
	case blank(i) && i+1 < len(l), !blank(i) && blank(i+1):
		b++
	case !blank(i) && blank(i-1):
		a--
	}
	return api.Range{From: r.start + l[a][0], To: r.start + l[b][1]}, true
}

// between is what is between two runes of one byte, or that with both.
func between(a, b int, all bool) (api.Range, bool) {
	if all {
		return api.Range{From: a, To: b + 1}, true
	}
	return api.Range{From: a + 1, To: b}, true
}

// wantBracket is what the chapters say of brackets: each one that closes goes back to the last one that opens and has none yet; of those around the place it is the one with the greatest first place.
func wantBracket(t string, p int, all bool, opens, closes byte) (api.Range, bool) {
	has := map[int]int{}
	for q := range len(t) {
		for i := q - 1; i >= 0 && t[q] == closes; i-- {
			if _, ok := has[i]; t[i] == opens && !ok {
				has[i] = q
				break
			}
		}
	}
	for i := p; i >= 0; i-- {
		if q, ok := has[i]; ok && q >= p {
			return between(i, q, all)
		}
	}
	return api.Range{}, false
}

// wantQuote is what the chapter says of quotes: the signs of the line, two by two.
func wantQuote(t string, p int, all bool, sign string) (api.Range, bool) {
	lines := rows(t)
	r := lines[rowOf(lines, p)]
	var l []int
	for i, c := range r.text {
		if string(c) == sign {
			l = append(l, r.start+i)
		}
	}
	for two := range slices.Chunk(l, 2) {
		if len(two) == 2 && two[1] >= p {
			return between(two[0], two[1], all)
		}
	}
	return api.Range{}, false
}

// wantBlock is what the chapters say of blocks: as many lines as there are that are as that of the place, and then those beside them.
func wantBlock(t string, p int, all bool) (api.Range, bool) {
	l := rows(t)
	a := rowOf(l, p)
	b := a
	on := func() {
		for b+1 < len(l) && (l[b+1].text == "") == (l[b].text == "") {
			b++
		}
	}
	back := func() {
		for a > 0 && (l[a-1].text == "") == (l[a].text == "") {
			a--
		}
	}
	on()
	back()
	switch {
	case all && b+1 < len(l):
		b++
		on()
	case all && a > 0:
		a--
		back()
	}
	return api.Range{From: l[a].start, To: l[b].start + len(l[b].text), Lines: true}, true
}

// want is what the chapter says of a thing.
func want(t string, p int, all bool, kind string) (api.Range, bool) {
	switch kind {
	case "w":
		return wantWord(t, p, all, plain)
	case "W":
		return wantWord(t, p, all, great)
	case "(", ")", "b":
		return wantBracket(t, p, all, '(', ')')
	case "[", "]":
		return wantBracket(t, p, all, '[', ']')
	case "{", "}", "B":
		return wantBracket(t, p, all, '{', '}')
	case "<", ">":
		return wantBracket(t, p, all, '<', '>')
	case "p":
		return wantBlock(t, p, all)
	}
	return wantQuote(t, p, all, kind)
}

// tells holds Of against a range, or against none.
func tells(t *testing.T, s string, p int, all bool, kind string, r api.Range, ok bool) {
	t.Helper()
	if got, found := thing.Of(s, p, all, kind); got != r || found != ok {
		t.Errorf("Of(%q, %d, %t, %q): %v, %t, not %v, %t", s, p, all, kind, got, found, r, ok)
	}
}

// none holds both things of a kind against none.
func none(t *testing.T, s string, p int, kind string) {
	t.Helper()
	tells(t, s, p, false, kind, api.Range{}, false)
	tells(t, s, p, true, kind, api.Range{}, false)
}

// try is a call by hand: the place; from where to where the thing goes inside, and as a whole.
type try struct{ p, from, to, start, end int }

// hand holds things of one kind in one text against what they are.
func hand(t *testing.T, s, kind string, l ...try) {
	t.Helper()
	for _, x := range l {
		tells(t, s, x.p, false, kind, api.Range{From: x.from, To: x.to, Lines: kind == "p"}, true)
		tells(t, s, x.p, true, kind, api.Range{From: x.start, To: x.end, Lines: kind == "p"}, true)
	}
}

// P19.1: w and W by hand: with the blanks behind, else with those ahead, else alone; blanks with what is behind them, else alone.
func TestWords(t *testing.T) {
	// a0 b1 _2 tab3 +4 -5 c6 _7 feed8 _9 _10 d11 feed12 e13 (two bytes) feed15 _16 feed17 feed18 x19; the end is at 20.
	const s = "ab \t+-c \n  d\n\u00e9\n \n\nx"
	hand(t, s, "w",
		try{0, 0, 2, 0, 4}, try{1, 0, 2, 0, 4}, try{2, 2, 4, 2, 6}, try{3, 2, 4, 2, 6}, try{4, 4, 6, 2, 6}, try{5, 4, 6, 2, 6}, try{6, 6, 7, 6, 8},
		// Blanks at the line's end have nothing behind them; a word there has the blanks ahead of it.
		try{7, 7, 8, 7, 8}, try{9, 9, 11, 9, 12}, try{10, 9, 11, 9, 12}, try{11, 11, 12, 9, 12}, try{13, 13, 15, 13, 15}, try{16, 16, 17, 16, 17}, try{19, 19, 20, 19, 20},
	)
	hand(t, s, "W",
		try{0, 0, 2, 0, 4}, try{2, 2, 4, 2, 7}, try{3, 2, 4, 2, 7}, try{4, 4, 7, 4, 8}, try{5, 4, 7, 4, 8}, try{6, 4, 7, 4, 8}, try{7, 7, 8, 7, 8}, try{11, 11, 12, 9, 12}, try{13, 13, 15, 13, 15},
	)
	for _, kind := range []string{"w", "W"} {
		for _, p := range []int{8, 12, 15, 17, 18, 20} {
			none(t, s, p, kind)
		}
		none(t, "", 0, kind)
		hand(t, "a", kind, try{0, 0, 1, 0, 1})
		hand(t, " ", kind, try{0, 0, 1, 0, 1})
		// Of blanks on both sides it is those behind.
		hand(t, " a ", kind, try{1, 1, 2, 1, 3}, try{0, 0, 1, 0, 2}, try{2, 2, 3, 2, 3})
		// Nothing goes on in another line.
		hand(t, "a \n b", kind, try{0, 0, 1, 0, 2}, try{1, 1, 2, 1, 2}, try{3, 3, 4, 3, 5}, try{4, 4, 5, 3, 5})
		hand(t, "a\n b\n", kind, try{0, 0, 1, 0, 1})
		hand(t, "a \nb", kind, try{3, 3, 4, 3, 4})
	}
	// Beside a run may be one of another class that is no blank: it is left out.
	hand(t, "a+ b", "w", try{0, 0, 1, 0, 1}, try{1, 1, 2, 1, 3}, try{3, 3, 4, 2, 4})
	hand(t, " a+", "w", try{0, 0, 1, 0, 2}, try{1, 1, 2, 0, 2}, try{2, 2, 3, 2, 3})
}

// P19.1: brackets by hand: the inmost pair around the place, from its first bracket to its second one, over lines.
func TestBrackets(t *testing.T) {
	for _, x := range []struct{ opens, closes, short string }{{"(", ")", "b"}, {"[", "]", ""}, {"{", "}", "B"}, {"<", ">", ""}} {
		// a0 (1 b2 (4 )5 feed6 (7 c8 )9 )10 )11 (12; the end is at 13.
		s := strings.NewReplacer("(", x.opens, ")", x.closes).Replace("a(\u00e9()\n(c)))(")
		for _, kind := range []string{x.opens, x.closes, x.short} {
			if kind == "" {
				continue
			}
			hand(t, s, kind,
				try{1, 2, 10, 1, 11}, try{2, 2, 10, 1, 11}, try{4, 5, 5, 4, 6}, try{5, 5, 5, 4, 6}, try{6, 2, 10, 1, 11}, try{7, 8, 9, 7, 10}, try{8, 8, 9, 7, 10}, try{9, 8, 9, 7, 10}, try{10, 2, 10, 1, 11},
			)
			for _, p := range []int{0, 11, 12, 13} {
				none(t, s, p, kind)
			}
			none(t, "", 0, kind)
			hand(t, x.opens+x.closes, kind, try{0, 1, 1, 0, 2}, try{1, 1, 1, 0, 2})
			none(t, x.opens+x.closes, 2, kind)
			// What is never closed is in the way of nothing.
			hand(t, x.opens+x.opens+"a"+x.closes, kind, try{1, 2, 3, 1, 4}, try{3, 2, 3, 1, 4})
			none(t, x.opens+x.opens+"a"+x.closes, 0, kind)
			// Quotes hide no brackets.
			hand(t, x.opens+"\""+x.closes+"\""+x.closes, kind, try{1, 1, 2, 0, 3})
		}
	}
	// Kinds are on their own, and may lie across.
	hand(t, "([)]", "b", try{0, 1, 2, 0, 3}, try{1, 1, 2, 0, 3})
	hand(t, "([)]", "[", try{1, 2, 3, 1, 4}, try{2, 2, 3, 1, 4}, try{3, 2, 3, 1, 4})
	none(t, "([)]", 1, "{")
	none(t, "([)]", 1, "<")
}

// P19.1: quotes by hand: two by two from the line's start; the first two that are not both ahead of the place.
func TestQuotes(t *testing.T) {
	for _, kind := range []string{"\"", "'", "`"} {
		// a0 "1 b2 "4 c5 "6 "7 d8 "9 feed10 e11 "12 f13 feed14 "15 "16; the end is at 17.
		s := strings.ReplaceAll("a\"\u00e9\"c\"\"d\"\ne\"f\n\"\"", "\"", kind)
		hand(t, s, kind,
			// From ahead of them they are found as well; from between two of them to those behind.
			try{0, 2, 4, 1, 5}, try{1, 2, 4, 1, 5}, try{2, 2, 4, 1, 5}, try{4, 2, 4, 1, 5}, try{5, 7, 7, 6, 8}, try{6, 7, 7, 6, 8}, try{7, 7, 7, 6, 8},
			try{15, 16, 16, 15, 17}, try{16, 16, 16, 15, 17},
		)
		// The fifth sign is alone, so is that of the next line, and none goes with one of another line.
		for _, p := range []int{8, 9, 10, 11, 12, 13, 14, 17} {
			none(t, s, p, kind)
		}
		for _, s := range []string{"", kind, "a", kind + "\n" + kind, "a\n" + kind + kind} {
			none(t, s, 0, kind)
		}
		hand(t, kind+"\n"+kind+kind, kind, try{2, 3, 3, 2, 4})
		// A sign behind a backslash is a sign.
		hand(t, "\\"+kind+"a"+kind, kind, try{0, 2, 3, 1, 4})
	}
	// Signs are on their own, and may lie across.
	hand(t, "\"a'b\"c'", "\"", try{0, 1, 4, 0, 5}, try{2, 1, 4, 0, 5}, try{4, 1, 4, 0, 5})
	hand(t, "\"a'b\"c'", "'", try{0, 3, 6, 2, 7}, try{6, 3, 6, 2, 7})
	none(t, "\"a'b\"c'", 5, "\"")
	none(t, "\"a'b\"c'", 0, "`")
}

// P19.1: blocks by hand: whole lines, without the line feed behind the last one; each place of a text has one.
func TestBlocks(t *testing.T) {
	// The lines are at 0 to 2, 3 to 4, 5 (empty), 6 (empty), 7 to 9.
	const s = "\u00e9\nb\n\n\ncd"
	for _, p := range []int{0, 2, 3, 4} {
		hand(t, s, "p", try{p, 0, 4, 0, 6})
	}
	hand(t, s, "p", try{5, 5, 6, 5, 9}, try{6, 5, 6, 5, 9}, try{7, 7, 9, 5, 9}, try{8, 7, 9, 5, 9}, try{9, 7, 9, 5, 9})
	hand(t, "", "p", try{0, 0, 0, 0, 0})
	hand(t, "\n", "p", try{0, 0, 1, 0, 1}, try{1, 0, 1, 0, 1})
	hand(t, "a", "p", try{0, 0, 1, 0, 1}, try{1, 0, 1, 0, 1})
	hand(t, "a\n", "p", try{0, 0, 1, 0, 2}, try{1, 0, 1, 0, 2}, try{2, 2, 2, 0, 2})
	hand(t, "\na", "p", try{0, 0, 0, 0, 2}, try{1, 1, 2, 0, 2})
	hand(t, "a\n \nb", "p", try{0, 0, 5, 0, 5}, try{2, 0, 5, 0, 5})
}

// P19.1: the chapter's example.
func TestExample(t *testing.T) {
	const s = "f(a, b)"
	hand(t, s, "(", try{3, 2, 6, 1, 7})
	tells(t, s, 0, false, "w", api.Range{From: 0, To: 1}, true)
}

// P19.1: things of all kinds, inside and as a whole, from all places, in all texts.
func TestTexts(t *testing.T) {
	for _, s := range texts() {
		for _, p := range places(s) {
			for _, kind := range kinds() {
				for _, all := range []bool{false, true} {
					r, ok := want(s, p, all, kind)
					tells(t, s, p, all, kind, r, ok)
				}
			}
		}
		if t.Failed() {
			t.FailNow()
		}
	}
}

// P19.1: longer texts, put together by chance.
func TestLonger(t *testing.T) {
	r := rand.New(rand.NewSource(19))
	runes := []string{"(", ")", "[", "]", "{", "}", "<", ">", "\"", "'", "`", "\n", "\n\n", " ", "  ", "\t", "a", "b_1", "\u00e9", "\u20ac", "\U0001f600", ",", "+-"}
	for range 3000 {
		s := ""
		for range r.Intn(60) {
			s += runes[r.Intn(len(runes))]
		}
		l := places(s)
		p := l[r.Intn(len(l))]
		for _, kind := range kinds() {
			for _, all := range []bool{false, true} {
				x, ok := want(s, p, all, kind)
				tells(t, s, p, all, kind, x, ok)
			}
		}
	}
}

// P19.1: each rune of one byte is of the run, the pair or the quotes that the chapters say, and all longer ones are of words.
func TestAllRunes(t *testing.T) {
	l := []string{"\u0080", "\u00a0", "\u07ff", "\u0800", "\u2003", "\u2028", "\ud7ff", "\ue000", "\uffff", "\U00010000", "\U0010ffff"}
	for b := range rune(0x80) {
		l = append(l, string(b))
	}
	for _, c := range l {
		for _, s := range []string{c, "a" + c + "b", "+" + c + " -", c + " " + c, " " + c + "\n" + c} {
			for _, p := range places(s) {
				for _, kind := range kinds() {
					for _, all := range []bool{false, true} {
						r, ok := want(s, p, all, kind)
						tells(t, s, p, all, kind, r, ok)
					}
				}
			}
		}
	}
}

// P19.1: of what is no kind there is nothing.
func TestNoKind(t *testing.T) {
	for _, kind := range noKinds() {
		for _, s := range append(byHand(), "") {
			for _, p := range places(s) {
				none(t, s, p, kind)
			}
		}
	}
}

// P19.1: of what is no place there is nothing: ahead of the text, behind it, inside a rune.
func TestNoPlace(t *testing.T) {
	const s = "(\u00e9 [{<\n\"\u20ac'`\U0001f600`'\">}])\n"
	for p := -2; p <= len(s)+2; p++ {
		if !slices.Contains(places(s), p) {
			for _, kind := range kinds() {
				none(t, s, p, kind)
			}
		}
	}
	for _, p := range far() {
		for _, kind := range kinds() {
			none(t, s, p, kind)
			none(t, "", p, kind)
		}
	}
	for _, kind := range kinds() {
		none(t, "", -1, kind)
		none(t, "", 1, kind)
	}
}

// P19.1: in what is not valid there is nothing, not even where what is wrong is in another line.
func TestNotValid(t *testing.T) {
	for _, s := range wrong() {
		if utf8.ValidString(s) {
			t.Fatalf("%q is valid", s)
		}
		for p := -1; p <= len(s)+1; p++ {
			for _, kind := range kinds() {
				none(t, s, p, kind)
			}
		}
	}
}

// P19.2: the kinds are those of the table, and no others.
func TestHas(t *testing.T) {
	for _, kind := range kinds() {
		if !thing.Has(kind) {
			t.Errorf("Has(%q): false", kind)
		}
	}
	for _, kind := range append(noKinds(), wrong()...) {
		if thing.Has(kind) {
			t.Errorf("Has(%q): true", kind)
		}
	}
}

// P19.3: what is inside lies within the whole, and both within the text, at places; the one is there, if the other is.
func TestWithin(t *testing.T) {
	for _, s := range texts() {
		l := places(s)
		for _, p := range l {
			for _, kind := range kinds() {
				in, ok := thing.Of(s, p, false, kind)
				whole, is := thing.Of(s, p, true, kind)
				if ok != is {
					t.Fatalf("%q at %d in %q: %t inside, %t as a whole", kind, p, s, ok, is)
				}
				if in.From < whole.From || in.To > whole.To || in.From > in.To || in.Lines != whole.Lines {
					t.Errorf("%q at %d in %q: %v inside, %v as a whole", kind, p, s, in, whole)
				}
				for _, at := range []int{in.From, in.To, whole.From, whole.To} {
					if _, found := slices.BinarySearch(l, at); !found {
						t.Errorf("%q at %d in %q: %v inside, %v as a whole: %d is no place", kind, p, s, in, whole, at)
					}
				}
			}
		}
	}
}

// What is told hangs on nothing that was asked ahead.
func TestNothingIsKept(t *testing.T) {
	const s = "(ab \"c\")\n\nd"
	for _, other := range append(byHand(), wrong()...) {
		for _, kind := range append(kinds(), "", "x") {
			thing.Of(other, len(other)/2, true, kind)
			thing.Has(kind)
		}
		hand(t, s, "w", try{1, 1, 3, 1, 4})
		hand(t, s, "b", try{1, 1, 7, 0, 8})
		hand(t, s, "\"", try{1, 5, 6, 4, 7})
		hand(t, s, "p", try{1, 0, 8, 0, 9})
	}
}

// A long text: of one line, of one run, of many pairs, and of many lines.
func TestLong(t *testing.T) {
	const n = 100000
	run := strings.Repeat("\u20ac", n)
	hand(t, run+"  "+run, "w", try{3, 0, 3 * n, 0, 3*n + 2}, try{3 * n, 3 * n, 3*n + 2, 3 * n, 6*n + 2}, try{3*n + 2, 3*n + 2, 6*n + 2, 3 * n, 6*n + 2})
	hand(t, strings.Repeat("(", n)+strings.Repeat(")", n), "b", try{0, 1, 2*n - 1, 0, 2 * n}, try{n, n, n, n - 1, n + 1}, try{2*n - 1, 1, 2*n - 1, 0, 2 * n})
	signs := strings.Repeat("\"", 2*n)
	hand(t, signs, "\"", try{0, 1, 1, 0, 2}, try{n, n + 1, n + 1, n, n + 2}, try{2*n - 1, 2*n - 1, 2*n - 1, 2*n - 2, 2 * n})
	none(t, signs, 2*n, "\"")
	lines := strings.Repeat("a\n", n)
	hand(t, lines, "p", try{0, 0, 2*n - 1, 0, 2 * n}, try{2 * n, 2 * n, 2 * n, 0, 2 * n})
}
