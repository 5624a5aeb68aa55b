package pair_test

import (
	"math"
	"math/rand"
	"slices"
	"strings"
	"testing"
	"unicode/utf8"

	"calamus/pair"
)

// brackets are the four kinds: that which opens, and that which closes.
func brackets() [][2]string {
	return [][2]string{{"(", ")"}, {"[", "]"}, {"{", "}"}, {"<", ">"}}
}

// texts are valid ones: all of up to some runes of one kind of brackets, of two kinds, and of all kinds with others, and some by hand.
func texts() []string {
	l := made([]string{"(", ")"}, 8)
	l = append(l, made([]string{"<", ">"}, 5)...)
	l = append(l, made([]string{"(", ")", "[", "]", "\n"}, 4)...)
	l = append(l, made([]string{"{", "}", "\u00e9", "\n"}, 5)...)
	l = append(l, made([]string{"(", ")", "[", "]", "{", "}", "<", ">", "a", "\n", "\u20ac"}, 3)...)
	return append(l,
		")(a[b)c](d\n{x}())", "(a(b)", "f(a[1], {\u00e9: (x)})\n", "((((a))))))\n((((b)))", "<a <b> c>", "a < b, c > d", "([)]", "([{<>}])",
		// What looks like a bracket, is that of another kind, or has a bracket's low bits.
		"\uff08a\uff09", "\u2768(\u2769)", "\u0128\u0129()\u015b\u015d[]\u017b\u017d{}\u013c\u013e<>", "\"(\")", "'(')", "\\(\\)",
		// What ends no line of layer 4, though it does elsewhere.
		"a\r(\v)\f[\u0085]\u2028{\x00}",
		"\ufffd(\ufffd)\U0001f600",
	)
}

// made are all texts of up to n of these runes.
func made(runes []string, n int) []string {
	l := []string{""}
	for from := 0; n > 0; n-- {
		to := len(l)
		for _, s := range l[from:to] {
			for _, r := range runes {
				l = append(l, s+r)
			}
		}
		from = to
	}
	return l
}

// wrong are bytes that are no valid texts, with brackets ahead of what is wrong and behind it.
func wrong() []string {
	l := []string{
		"\xff", "\x80", "\xc3", "\xc3a", "\xe2\x82", "\xe2\x82\n", "\xf0\x9f\x98", "\xc0\xa8", "\xc0\xa9", "\xe0\x80\xa8", "\xed\xa0\x80", "\xf4\x90\x80\x80", "\u00e9\x80",
	}
	for _, s := range l {
		l = append(l, "(a)"+s, s+"(a)", "("+s+")", "(a)\n"+s+"\n[b]", "{[(<a>)]}\n"+s)
	}
	return l
}

// noKinds are texts that tell no kind of brackets: none, those that close, both, several, others, and bytes that are not valid.
func noKinds() []string {
	l := append(wrong(), "", ")", "]", "}", ">", "()", "[]", "{}", "<>", "((", "([", "(\x00", " (", "( ", "a", "b", "B", "\"", "'", "\n", "\x00", "\uff08", "\u0128", "<lt>", "&lt;")
	for b := range 256 {
		if !strings.Contains("([{<", string([]byte{byte(b)})) {
			l = append(l, string([]byte{byte(b)}))
		}
	}
	return l
}

// far are numbers beyond all texts, from both ends of what a number can be.
func far() []int {
	return []int{math.MinInt, math.MinInt + 1, math.MinInt32, math.MaxInt32, 1 << 32, math.MaxInt - 1, math.MaxInt}
}

// places are where a valid text's runes begin, and its end.
func places(t string) []int {
	l := []int{}
	for p := range t {
		l = append(l, p)
	}
	return append(l, len(t))
}

// wantAll is what the chapter says: each one that closes goes back to the last one that opens and has none yet.
func wantAll(t string, kind [2]string) [][2]int {
	var l [][2]int
	for q := range len(t) {
		if t[q:q+1] != kind[1] {
			continue
		}
		for p := q - 1; p >= 0; p-- {
			if t[p:p+1] == kind[0] && !slices.ContainsFunc(l, func(x [2]int) bool { return x[0] == p }) {
				l = append(l, [2]int{p, q})
				break
			}
		}
	}
	slices.SortFunc(l, func(a, b [2]int) int { return a[0] - b[0] })
	return l
}

// wantMatch is what the chapter says: the line is gone through till there is a bracket, and that one looked up. -1, if there is none.
func wantMatch(t string, p int) int {
	for ; p < len(t) && t[p] != '\n'; p++ {
		for _, kind := range brackets()[:3] {
			if s := t[p : p+1]; s != kind[0] && s != kind[1] {
				continue
			}
			for _, x := range wantAll(t, kind) {
				if x[0] == p {
					return x[1]
				}
				if x[1] == p {
					return x[0]
				}
			}
			return -1
		}
	}
	return -1
}

// wantAround is what the chapter says: of all pairs around the place the one with the greatest first place. -1 and -1, if there is none.
func wantAround(t string, p int, kind [2]string) (int, int) {
	a, b := -1, -1
	for _, x := range wantAll(t, kind) {
		if x[0] <= p && x[1] >= p && x[0] > a {
			a, b = x[0], x[1]
		}
	}
	return a, b
}

// all holds All against what it tells.
func all(t *testing.T, s, kind string, want ...[2]int) {
	t.Helper()
	if got := pair.All(s, kind); !slices.Equal(got, want) {
		t.Errorf("All(%q, %q): %v, not %v", s, kind, got, want)
	}
}

// match holds Match against a place, or against none, if that is -1.
func match(t *testing.T, s string, p, to int) {
	t.Helper()
	got, ok := pair.Match(s, p)
	if ok != (to >= 0) || got != max(to, 0) {
		t.Errorf("Match(%q, %d): %d, %t, not %d", s, p, got, ok, to)
	}
}

// around holds Around against two places, or against none, if the first is -1.
func around(t *testing.T, s string, p int, kind string, a, b int) {
	t.Helper()
	x, y, ok := pair.Around(s, p, kind)
	if ok != (a >= 0) || x != max(a, 0) || y != max(b, 0) {
		t.Errorf("Around(%q, %d, %q): %d, %d, %t, not %d, %d", s, p, kind, x, y, ok, a, b)
	}
}

// P17.1: pairs by hand: within one another, beside one another, over lines, and in the order of those that open.
func TestAll(t *testing.T) {
	all(t, "", "(")
	all(t, "(", "(")
	all(t, ")", "(")
	all(t, ")(", "(")
	all(t, "()", "(", [2]int{0, 1})
	all(t, "()()", "(", [2]int{0, 1}, [2]int{2, 3})
	all(t, "(())", "(", [2]int{0, 3}, [2]int{1, 2})
	all(t, "(()())", "(", [2]int{0, 5}, [2]int{1, 2}, [2]int{3, 4})
	all(t, "(\n\n)", "(", [2]int{0, 3})
	all(t, "\u00e9(\u20ac)\U0001f600", "(", [2]int{2, 6})
	all(t, "[a]", "[", [2]int{0, 2})
	all(t, "{a}", "{", [2]int{0, 2})
	all(t, "<a>", "<", [2]int{0, 2})
}

// P17.1: what belongs to none: what closes without one ahead, what opens without one behind, and neither is in the way of others.
func TestLeftAlone(t *testing.T) {
	all(t, "(()", "(", [2]int{1, 2})
	all(t, "(()(", "(", [2]int{1, 2})
	all(t, "())", "(", [2]int{0, 1})
	all(t, "())()", "(", [2]int{0, 1}, [2]int{3, 4})
	all(t, "))(())((", "(", [2]int{2, 5}, [2]int{3, 4})
	all(t, "(a(b)c(d)", "(", [2]int{2, 4}, [2]int{6, 8})
}

// P17.1: kinds are on their own: brackets of others are runes as all others, and may lie across.
func TestKinds(t *testing.T) {
	all(t, "([)]", "(", [2]int{0, 2})
	all(t, "([)]", "[", [2]int{1, 3})
	all(t, "([)]", "{")
	all(t, "([)]", "<")
	for _, x := range brackets() {
		for _, y := range brackets() {
			if x == y {
				all(t, x[0]+y[1], x[0], [2]int{0, 1})
			} else {
				all(t, x[0]+y[1], x[0])
				all(t, x[0]+y[1], y[0])
				all(t, x[0]+y[1]+x[1], x[0], [2]int{0, 2})
			}
		}
	}
}

// P17.1: no other rune of one byte opens or closes.
func TestOtherRunes(t *testing.T) {
	for _, kind := range brackets() {
		for b := range 128 {
			s := string(rune(b))
			if s != kind[0] {
				all(t, s+kind[1], kind[0])
			}
			if s != kind[1] {
				all(t, kind[0]+s, kind[0])
			}
		}
	}
}

// P17.1, P17.2, P17.3: the chapter's example.
func TestExample(t *testing.T) {
	all(t, "(a(b)", "(", [2]int{2, 4})
	match(t, "(a(b)", 3, 2)
}

// P17.1, P17.2, P17.3: all pairs, from all places, of all kinds, in all texts.
func TestTexts(t *testing.T) {
	for _, s := range texts() {
		for _, kind := range brackets() {
			all(t, s, kind[0], wantAll(s, kind)...)
			for _, p := range places(s) {
				a, b := wantAround(s, p, kind)
				around(t, s, p, kind[0], a, b)
			}
		}
		for _, p := range places(s) {
			match(t, s, p, wantMatch(s, p))
		}
		if t.Failed() {
			t.FailNow()
		}
	}
}

// P17.1, P17.2, P17.3: longer texts, put together by chance.
func TestLonger(t *testing.T) {
	r := rand.New(rand.NewSource(17))
	runes := []string{"(", "(", "(", ")", ")", ")", "[", "]", "{", "}", "<", ">", "a", "\u00e9", "\n"}
	for range 2000 {
		s := ""
		for range r.Intn(60) {
			s += runes[r.Intn(len(runes))]
		}
		l := places(s)
		p := l[r.Intn(len(l))]
		for _, kind := range brackets() {
			all(t, s, kind[0], wantAll(s, kind)...)
			a, b := wantAround(s, p, kind)
			around(t, s, p, kind[0], a, b)
		}
		match(t, s, p, wantMatch(s, p))
	}
}

// P17.2: Match by hand: on a bracket, ahead of one, there and back, over lines, and the first bracket alone.
func TestMatch(t *testing.T) {
	// ( is at 0, the first line feed at 4, [ at 5, { at 6, } at 8, the second line feed at 9, ] at 10, ) at 12, ) at 13, the end at 14.
	const s = "(a\u00e9\n[{b}\n]c))"
	for p, to := range map[int]int{0: 12, 1: -1, 2: -1, 4: -1, 5: 10, 6: 8, 7: 6, 8: 6, 9: -1, 10: 5, 11: 0, 12: 0, 13: -1, 14: -1} {
		match(t, s, p, to)
	}
	// The first bracket counts, though it belongs to none, and there is a pair behind it.
	match(t, "a) (b)", 0, -1)
	match(t, "a( [b]", 0, -1)
	match(t, "a} (b)", 0, -1)
	match(t, "a) (b)", 2, 5)
	// The line counts, not the text.
	match(t, "a\n(b)", 0, -1)
	match(t, "a\n(b)", 1, -1)
	match(t, "a\n(b)", 2, 4)
	match(t, "\n", 0, -1)
	match(t, "\n", 1, -1)
	match(t, "()\n", 3, -1)
	match(t, "", 0, -1)
}

// P17.2: < and > are passed by, as all other runes of one byte that are none of the six.
func TestMatchNoOther(t *testing.T) {
	match(t, "<a>", 0, -1)
	match(t, "<a>", 2, -1)
	match(t, "<(a)>", 0, 3)
	match(t, ">(a)<", 0, 3)
	match(t, "(<)>", 1, 0)
	for b := range 128 {
		s := string(rune(b))
		if strings.Contains("()[]{}\n", s) {
			continue
		}
		match(t, s, 0, -1)
		match(t, s+s, 0, -1)
		match(t, s+"(a)", 0, 3)
		match(t, "[a"+s+"]", 2, 0)
	}
}

// P17.3: Around by hand: on both places of a pair, within it, ahead of it and behind it, and the inmost of several.
func TestAround(t *testing.T) {
	// ( is at 0 and 3, ) at 5 and 8, the text's end at 9.
	const s = "(a\n(b)\nc)"
	for p, x := range map[int][2]int{0: {0, 8}, 1: {0, 8}, 2: {0, 8}, 3: {3, 5}, 4: {3, 5}, 5: {3, 5}, 6: {0, 8}, 7: {0, 8}, 8: {0, 8}, 9: {-1, -1}} {
		around(t, s, p, "(", x[0], x[1])
	}
	around(t, "a(b)c", 0, "(", -1, -1)
	around(t, "a(b)c", 4, "(", -1, -1)
	around(t, "(a)b(c)", 3, "(", -1, -1)
	around(t, "(a)b(c)", 4, "(", 4, 6)
	// What belongs to none is around nothing, nor in the way.
	around(t, "(a(b)", 1, "(", -1, -1)
	around(t, "(a(b)", 3, "(", 2, 4)
	around(t, "(a)b)", 3, "(", -1, -1)
	around(t, "(a(b)", 0, "(", -1, -1)
	around(t, "", 0, "(", -1, -1)
}

// P17.3: the kind counts: other brackets in between, those that lie across, and < with >.
func TestAroundKinds(t *testing.T) {
	const s = "<([{a}])>"
	for i, kind := range brackets() {
		// < is outmost, ahead of the three others.
		at := (i + 1) % 4
		around(t, s, 4, kind[0], at, 8-at)
		around(t, s, at, kind[0], at, 8-at)
		around(t, s, 8-at, kind[0], at, 8-at)
		if at > 0 {
			around(t, s, at-1, kind[0], -1, -1)
			around(t, s, 9-at, kind[0], -1, -1)
		}
	}
	around(t, "([)]", 2, "[", 1, 3)
	around(t, "([)]", 2, "(", 0, 2)
	around(t, "([)]", 3, "(", -1, -1)
}

// P17.1, P17.3: what tells no kind has no pairs.
func TestNoKind(t *testing.T) {
	for _, kind := range noKinds() {
		for _, s := range []string{"(a)[b]{c}<d>", "((a))", ")a(", kind + "a" + kind, kind + kind} {
			all(t, s, kind)
			for p := range len(s) + 1 {
				around(t, s, p, kind, -1, -1)
			}
		}
	}
}

// P17.2, P17.3: from what is no place nothing is told: ahead of the text, behind it, inside a rune.
func TestNoPlace(t *testing.T) {
	const s = "(\u00e9(\u20ac\n\U0001f600)a)"
	for _, p := range append(far(), -2, -1, 2, 5, 6, 9, 10, 11, 15, 16) {
		match(t, s, p, -1)
		around(t, s, p, "(", -1, -1)
	}
	for _, p := range append(far(), -1, 1, 2) {
		match(t, "", p, -1)
		around(t, "", p, "(", -1, -1)
	}
}

// P17.1, P17.2, P17.3: in what is not valid there are no pairs, not even where what is wrong is in another line.
func TestNotValid(t *testing.T) {
	for _, s := range wrong() {
		if utf8.ValidString(s) {
			t.Fatalf("%q is valid", s)
		}
		for _, kind := range brackets() {
			all(t, s, kind[0])
			for p := -1; p <= len(s)+1; p++ {
				match(t, s, p, -1)
				around(t, s, p, kind[0], -1, -1)
			}
		}
	}
}

// P17.4: pairs of a kind lie within one another, or apart, and their first places rise; no bracket is of two pairs.
func TestWithinOrApart(t *testing.T) {
	for _, s := range texts() {
		for _, kind := range brackets() {
			l := pair.All(s, kind[0])
			for i, a := range l {
				if s[a[0]:a[0]+1] != kind[0] || s[a[1]:a[1]+1] != kind[1] {
					t.Errorf("All(%q, %q): %v", s, kind[0], l)
				}
				for _, b := range l[i+1:] {
					within, apart := b[1] < a[1], a[1] < b[0]
					if b[0] <= a[0] || within == apart {
						t.Errorf("All(%q, %q): %v", s, kind[0], l)
					}
				}
			}
		}
	}
}

// P17.4: Match leads back from where it leads; of the three kinds it leads from all pairs, both ways, and from no other bracket.
func TestBackAgain(t *testing.T) {
	for _, s := range texts() {
		of := map[int]int{}
		for _, kind := range brackets()[:3] {
			for _, x := range pair.All(s, kind[0]) {
				of[x[0]], of[x[1]] = x[1], x[0]
			}
		}
		for p, r := range s {
			if !strings.ContainsRune("()[]{}", r) {
				if to, ok := pair.Match(s, p); ok {
					match(t, s, to, of[to])
				}
				continue
			}
			to, ok := of[p]
			if !ok {
				to = -1
			}
			match(t, s, p, to)
			if ok {
				match(t, s, to, p)
			}
		}
	}
}

// P17.1, P17.3: the pair around the first place of one is itself, and around its second one as well.
func TestAroundAll(t *testing.T) {
	for _, s := range texts() {
		for _, kind := range brackets() {
			for _, x := range pair.All(s, kind[0]) {
				around(t, s, x[0], kind[0], x[0], x[1])
				around(t, s, x[1], kind[0], x[0], x[1])
			}
		}
	}
}

// An answer is new memory: what is done with it, or behind its end, no later answer tells.
func TestNewMemory(t *testing.T) {
	const s = "((a)(b)("
	l := pair.All(s, "(")
	for i := range l[:cap(l)] {
		l[:cap(l)][i] = [2]int{9, 9}
	}
	all(t, s, "(", [2]int{1, 3}, [2]int{4, 6})
	match(t, s, 1, 3)
	around(t, s, 5, "(", 4, 6)
}

// What is told hangs on nothing that was asked ahead.
func TestNothingIsKept(t *testing.T) {
	const s = "a)(b)("
	for _, other := range []string{"((((", "))))", "\xff(", "[({<", ""} {
		for _, kind := range []string{"(", "[", ")", ""} {
			pair.All(other, kind)
			pair.Match(other, 0)
			pair.Around(other, 0, kind)
			all(t, s, "(", [2]int{2, 4})
			match(t, s, 3, 2)
			around(t, s, 3, "(", 2, 4)
		}
	}
}

// Long texts: many brackets that are within one another, beside one another, or belong to none.
func TestLong(t *testing.T) {
	const n = 300000
	deep := strings.Repeat("(", n) + strings.Repeat(")", n)
	l := pair.All(deep, "(")
	if len(l) != n || l[0] != [2]int{0, 2*n - 1} || l[n-1] != [2]int{n - 1, n} {
		t.Error("deep", len(l))
	}
	match(t, deep, 0, 2*n-1)
	match(t, deep, n-1, n)
	match(t, deep, 2*n-1, 0)
	around(t, deep, n, "(", n-1, n)
	around(t, deep, 0, "(", 0, 2*n-1)
	wide := strings.Repeat("(\u20ac)", n)
	l = pair.All(wide, "(")
	if len(l) != n || l[n-1] != [2]int{5*n - 5, 5*n - 1} {
		t.Error("wide", len(l))
	}
	match(t, wide, 5*n-4, 5*n-5)
	around(t, wide, 1, "(", 0, 4)
	alone := strings.Repeat(")", n) + strings.Repeat("(", n)
	all(t, alone, "(")
	match(t, alone, 0, -1)
	match(t, alone, 2*n-1, -1)
	around(t, alone, n, "(", -1, -1)
	far := strings.Repeat("a", n) + "[" + strings.Repeat("\n", n) + "]"
	match(t, far, 0, 2*n+1)
	match(t, far, n+1, -1)
	match(t, far, 2*n+1, n)
}
