package utf_test

import (
	"math"
	"strings"
	"testing"
	"unicode/utf8"
	"unsafe"

	"calamus/api"
	"calamus/utf"
)

// edges are the first and the last runes of one to four bytes, those around the numbers from D800 to DFFF, and some between.
func edges() []string {
	l := []string{}
	for _, n := range []rune{0, 1, '\n', ' ', 'a', 0x7E, 0x7F, 0x80, 0x81, 0xBF, 0xC0, 0xE9, 0x7FE, 0x7FF, 0x800, 0x801, 0xFFF, 0x1000, 0x20AC, 0xCFFF, 0xD000, 0xD7FF, 0xE000, 0xEFFF, 0xF000, 0xFEFF, 0xFFFD, 0xFFFE, 0xFFFF, 0x10000, 0x10001, 0x1F600, 0x3FFFF, 0x40000, 0xFFFFF, 0x100000, 0x10FFFE, 0x10FFFF} {
		l = append(l, string(n))
	}
	return l
}

// texts are valid ones: each edge alone, at either end, and each behind each.
func texts() []string {
	l := []string{"", "ab", "a\u00e9", "a\u00e9\u20acz", "one\n\ntwo\n", strings.Join(edges(), "")}
	for _, a := range edges() {
		l = append(l, a, a+"x", "x"+a)
		for _, b := range edges() {
			l = append(l, a+b)
		}
	}
	return l
}

// wrong are bytes that are no valid texts.
func wrong() []string {
	l := []string{
		// What goes on without a beginning.
		"\x80", "\x8f", "\x90", "\x9f", "\xa0", "\xbf", "\x80\x80",
		// More bytes than are needed.
		"\xc0\x80", "\xc0\x8a", "\xc0\xbf", "\xc1\x80", "\xc1\xbf", "\xe0\x80\x80", "\xe0\x81\xbf", "\xe0\x9f\xbf", "\xf0\x80\x80\x80", "\xf0\x8f\xbf\xbf",
		// D800 to DFFF.
		"\xed\xa0\x80", "\xed\xaf\xbf", "\xed\xb0\x80", "\xed\xbf\xbf", "\xed\xa0\x80\xed\xb0\x80",
		// Above 10FFFF.
		"\xf4\x90\x80\x80", "\xf4\xbf\xbf\xbf", "\xf5\x80\x80\x80", "\xf7\xbf\xbf\xbf", "\xf8\x88\x80\x80\x80", "\xfc\x84\x80\x80\x80\x80", "\xfe", "\xff",
		// Bytes that go on wrongly.
		"\xc2a", "\xc2\x7f", "\xc2\xc0", "\xe2\x82a", "\xe2a\xac", "\xe2\x82\xc0", "\xe2\xc0\xac", "\xf0\x9f\x98a", "\xf0\x9fa\x80", "\xf0a\x98\x80", "\xf0\x9f\x98\xc0", "\xf0\x9f\xc0\x80", "\xf0\xc0\x98\x80", "\xf3\x7f\x80\x80", "\xf3\x80\x7f\x80", "\xf3\x80\x80\x7f",
		// One byte too many.
		"\u00e9\x80", "\u20ac\x80", "\U0001f600\x80", "a\x80",
	}
	for _, s := range edges() {
		for n := 1; n < len(s); n++ {
			// What is cut off, ahead and behind.
			l = append(l, s[:n], s[n:])
		}
	}
	for _, s := range l {
		l = append(l, s+"ab", "ab"+s, "\u20ac"+s+"\U0001f600")
	}
	return l
}

// numbers are offsets and counts from far below a text of n to far above it.
func numbers(n int) []int {
	l := []int{math.MinInt, math.MinInt + 1, math.MinInt32, math.MaxInt - 1, math.MaxInt, math.MaxInt32, 1 << 32}
	for k := -2; k <= n+2; k++ {
		l = append(l, k)
	}
	return l
}

// P3.1: each rune there is, by Go's own hand, and no number that is none.
func TestValidRunes(t *testing.T) {
	for n := rune(0); n <= 0x10FFFF; n++ {
		if n >= 0xD800 && n <= 0xDFFF {
			s := string([]byte{0xE0 | byte(n>>12), 0x80 | byte(n>>6)&0x3F, 0x80 | byte(n)&0x3F})
			if utf.Valid(s) {
				t.Fatalf("%X: %q", n, s)
			}
			continue
		}
		if s := string(n); !utf.Valid(s) {
			t.Fatalf("%X: %q", n, s)
		}
	}
	for n := 0x110000; n < 0x200000; n++ {
		s := string([]byte{0xF0 | byte(n>>18), 0x80 | byte(n>>12)&0x3F, 0x80 | byte(n>>6)&0x3F, 0x80 | byte(n)&0x3F})
		if utf.Valid(s) {
			t.Fatalf("%X: %q", n, s)
		}
	}
}

// P3.1: each number in more bytes than it needs.
func TestValidFewestBytes(t *testing.T) {
	for n := range 0x10000 {
		b := []byte{0xF0, 0x80 | byte(n>>12), 0x80 | byte(n>>6)&0x3F, 0x80 | byte(n)&0x3F}
		if utf.Valid(string(b)) {
			t.Fatalf("%X: %q", n, b)
		}
		if b[1] = 0xE0 | byte(n>>12); n < 0x800 && utf.Valid(string(b[1:])) {
			t.Fatalf("%X: %q", n, b[1:])
		}
		if b[2] = 0xC0 | byte(n>>6); n < 0x80 && utf.Valid(string(b[2:])) {
			t.Fatalf("%X: %q", n, b[2:])
		}
	}
}

// P3.1: all of one to three bytes, and of four those at which something turns, by the library.
func TestValidBytes(t *testing.T) {
	check := func(b ...byte) {
		if s := string(b); utf.Valid(s) != utf8.ValidString(s) {
			t.Fatalf("%q: %v", s, utf.Valid(s))
		}
	}
	turns := []byte{0, 'a', 0x7F, 0x80, 0x81, 0x8F, 0x90, 0x9F, 0xA0, 0xBF, 0xC0, 0xC1, 0xC2, 0xDF, 0xE0, 0xE1, 0xEC, 0xED, 0xEE, 0xEF, 0xF0, 0xF1, 0xF3, 0xF4, 0xF5, 0xF7, 0xF8, 0xFF}
	for a := range 256 {
		check(byte(a))
		for b := range 256 {
			check(byte(a), byte(b))
			for _, c := range turns {
				check(byte(a), byte(b), c)
				for _, d := range turns {
					check(byte(a), byte(b), c, d)
				}
			}
		}
	}
}

// P3.1: runes one behind the other are valid; one wrong thing among them is enough that they are not.
func TestValidTexts(t *testing.T) {
	for _, s := range texts() {
		if !utf.Valid(s) {
			t.Errorf("%q", s)
		}
	}
	for _, s := range wrong() {
		if utf.Valid(s) {
			t.Errorf("%q", s)
		}
	}
	long := strings.Repeat("a\u00e9\u20ac\U0001f600", 3000)
	if !utf.Valid(long) || utf.Valid(long+"\xf0") || utf.Valid("\x98"+long) || utf.Valid(long[:len(long)/2+1]+"\xff"+long) {
		t.Error("a long text")
	}
}

// P3.1: of what is not valid nothing else is told, at any place, not even ahead of what is wrong.
func TestNothingOfWhatIsNotValid(t *testing.T) {
	for _, s := range wrong() {
		if n := utf.Count(s); n != 0 {
			t.Errorf("Count(%q): %d", s, n)
		}
		for _, k := range numbers(len(s)) {
			if utf.Place(s, k) {
				t.Errorf("Place(%q, %d)", s, k)
			}
			if n := utf.Next(s, k); n != -1 {
				t.Errorf("Next(%q, %d): %d", s, k, n)
			}
			if n := utf.Prev(s, k); n != -1 {
				t.Errorf("Prev(%q, %d): %d", s, k, n)
			}
			if r := utf.Rune(s, k); r != "" {
				t.Errorf("Rune(%q, %d): %q", s, k, r)
			}
			if n := utf.Offset(s, k); n != -1 {
				t.Errorf("Offset(%q, %d): %d", s, k, n)
			}
			if c := utf.Cut(s, k); c != "" {
				t.Errorf("Cut(%q, %d): %q", s, k, c)
			}
		}
	}
}

// places are those of a valid text, by the language's own way through it.
func places(s string) []int {
	l := []int{}
	for at := range s {
		l = append(l, at)
	}
	return append(l, len(s))
}

// P3.2: places, and what stands on either side of each; none anywhere else.
func TestPlaces(t *testing.T) {
	for _, s := range texts() {
		ahead, behind := map[int]int{}, map[int]int{}
		l := places(s)
		for i, at := range l {
			ahead[at], behind[at] = -1, -1
			if i > 0 {
				ahead[at] = l[i-1]
				behind[l[i-1]] = at
			}
		}
		for _, at := range numbers(len(s)) {
			next, is := behind[at]
			prev := ahead[at]
			rune := ""
			if !is {
				next, prev = -1, -1
			} else if next >= 0 {
				rune = s[at:next]
			}
			if utf.Place(s, at) != is {
				t.Errorf("Place(%q, %d): %v", s, at, !is)
			}
			if n := utf.Next(s, at); n != next {
				t.Errorf("Next(%q, %d): %d, not %d", s, at, n, next)
			}
			if n := utf.Prev(s, at); n != prev {
				t.Errorf("Prev(%q, %d): %d, not %d", s, at, n, prev)
			}
			if r := utf.Rune(s, at); r != rune {
				t.Errorf("Rune(%q, %d): %q, not %q", s, at, r, rune)
			}
		}
	}
}

// P3.2: the chapter's text, number by number, and the empty text.
func TestPlacesByHand(t *testing.T) {
	const s = "a\u00e9\U0001f600"
	for at, x := range []struct {
		place      bool
		next, prev int
		rune       string
	}{
		{true, 1, -1, "a"},
		{true, 3, 0, "\u00e9"},
		{false, -1, -1, ""},
		{true, 7, 1, "\U0001f600"},
		{false, -1, -1, ""},
		{false, -1, -1, ""},
		{false, -1, -1, ""},
		{true, -1, 3, ""},
		{false, -1, -1, ""},
	} {
		if utf.Place(s, at) != x.place || utf.Next(s, at) != x.next || utf.Prev(s, at) != x.prev || utf.Rune(s, at) != x.rune {
			t.Errorf("%d: %v, %d, %d, %q", at, utf.Place(s, at), utf.Next(s, at), utf.Prev(s, at), utf.Rune(s, at))
		}
	}
	if !utf.Place("", 0) || utf.Place("", 1) || utf.Place("", -1) || utf.Next("", 0) != -1 || utf.Prev("", 0) != -1 || utf.Rune("", 0) != "" {
		t.Error("the empty text")
	}
	if n := utf.Next("a\u00e9", 1); n != 3 {
		t.Error(n)
	}
}

// P3.3: how many runes, where each begins, and the end.
func TestCountAndOffset(t *testing.T) {
	for _, s := range texts() {
		l := places(s)
		if n := utf.Count(s); n != len(l)-1 || n != utf8.RuneCountInString(s) {
			t.Errorf("Count(%q): %d", s, n)
		}
		for _, k := range numbers(len(l)) {
			want := -1
			if k >= 0 && k < len(l) {
				want = l[k]
			}
			if n := utf.Offset(s, k); n != want {
				t.Errorf("Offset(%q, %d): %d, not %d", s, k, n, want)
			}
		}
	}
	if utf.Count("") != 0 || utf.Offset("", 0) != 0 || utf.Offset("", 1) != -1 || utf.Offset("", -1) != -1 {
		t.Error("the empty text")
	}
	long := strings.Repeat("a\u00e9\u20ac\U0001f600", 3000)
	if utf.Count(long) != 12000 || utf.Offset(long, 12000) != len(long) || utf.Offset(long, 11999) != len(long)-4 || utf.Offset(long, 12001) != -1 {
		t.Error("a long text")
	}
}

// P3.3: the longest beginnings.
func TestCut(t *testing.T) {
	for _, s := range texts() {
		for _, n := range numbers(len(s)) {
			want := ""
			for _, at := range places(s) {
				if at <= n {
					want = s[:at]
				}
			}
			if c := utf.Cut(s, n); c != want {
				t.Errorf("Cut(%q, %d): %q, not %q", s, n, c, want)
			}
		}
	}
	const s = "\u20aca\U0001f600"
	for n, want := range []string{"", "", "", "\u20ac", "\u20aca", "\u20aca", "\u20aca", "\u20aca", s, s} {
		if c := utf.Cut(s, n); c != want {
			t.Errorf("%d: %q", n, c)
		}
	}
}

// beginnings are all bytes that begin a rune, and have not ended it, found by going through all runes.
func beginnings() map[string]bool {
	all := map[string]bool{"": true}
	for n := rune(0); n <= 0x10FFFF; n++ {
		// Of D800 to DFFF Go makes FFFD, which is a rune.
		for s := string(n); len(s) > 1; {
			s = s[:len(s)-1]
			all[s] = true
		}
	}
	return all
}

// P3.4: each beginning, with each byte that can come.
func TestFeed(t *testing.T) {
	all := beginnings()
	for half := range all {
		for n := range 256 {
			b := byte(n)
			both := half + string([]byte{b})
			rest, rune, want := "", "", api.ErrText
			if utf8.ValidString(both) {
				rune, want = both, api.OK
			} else if all[both] {
				rest, want = both, api.OK
			}
			if g, r, e := utf.Feed(half, b); g != rest || r != rune || e != want {
				t.Fatalf("%q, %#x: %q, %q, error %d", half, b, g, r, e)
			}
		}
	}
	// None, 51 first bytes, 960 twos of which three can come, 256 of which four can, and 64 threes for each of these.
	if n := 1 + 51 + 960 + 256 + 256*64; len(all) != n {
		t.Errorf("%d beginnings, not %d", len(all), n)
	}
}

// P3.4: what is no beginning, whatever comes: wholes, more than wholes, and what can't be gone on with.
func TestFeedOfNoBeginning(t *testing.T) {
	all := beginnings()
	l := append(wrong(), texts()...)
	for n := range 256 {
		l = append(l, string([]byte{byte(n)}), string([]byte{0xE2, byte(n)}), string([]byte{0xF0, 0x9F, byte(n)}))
	}
	done := 0
	for _, half := range l {
		if all[half] {
			continue
		}
		done++
		for _, b := range []byte{0, 'a', '\n', 0x80, 0xA0, 0xBF, 0xC3, 0xE2, 0xF0, 0xFF} {
			if g, r, e := utf.Feed(half, b); g != "" || r != "" || e != api.ErrArg {
				t.Errorf("%q, %#x: %q, %q, error %d", half, b, g, r, e)
			}
		}
	}
	if done < 1000 {
		t.Errorf("only %d", done)
	}
}

// P3.4: some by hand.
func TestFeedByHand(t *testing.T) {
	for _, x := range []struct {
		half       string
		b          byte
		rest, rune string
		e          api.Errno
	}{
		{"", 'a', "", "a", api.OK},
		{"", 0, "", "\x00", api.OK},
		{"", 0x7F, "", "\x7f", api.OK},
		{"", 0xC3, "\xc3", "", api.OK},
		{"\xc3", 0xA9, "", "\u00e9", api.OK},
		{"\xc3", 'a', "", "", api.ErrText},
		{"\xc3", 0xC3, "", "", api.ErrText},
		{"", 0xC1, "", "", api.ErrText},
		{"", 0xF5, "", "", api.ErrText},
		{"\xe0", 0x9F, "", "", api.ErrText},
		{"\xe0", 0xA0, "\xe0\xa0", "", api.OK},
		{"\xed", 0x9F, "\xed\x9f", "", api.OK},
		{"\xed\x9f", 0xBF, "", "\ud7ff", api.OK},
		{"\xed", 0xA0, "", "", api.ErrText},
		{"\xf0", 0x8F, "", "", api.ErrText},
		{"\xf0", 0x90, "\xf0\x90", "", api.OK},
		{"\xf0\x90", 0x80, "\xf0\x90\x80", "", api.OK},
		{"\xf0\x90\x80", 0x80, "", "\U00010000", api.OK},
		{"\xf4", 0x90, "", "", api.ErrText},
		{"\xf4\x8f\xbf", 0xBF, "", "\U0010ffff", api.OK},
		{"\xf4\x8f\xbf", 0xC0, "", "", api.ErrText},
		{"a", 'b', "", "", api.ErrArg},
		{"\u00e9", 0xC3, "", "", api.ErrArg},
		{"a\xc3", 0xA9, "", "", api.ErrArg},
		{"\xc3\xa9\xc3", 0xA9, "", "", api.ErrArg},
		{"\x80", 0x80, "", "", api.ErrArg},
		{"\xed\xa0", 0x80, "", "", api.ErrArg},
	} {
		if g, r, e := utf.Feed(x.half, x.b); g != x.rest || r != x.rune || e != x.e {
			t.Errorf("%q, %#x: %q, %q, error %d", x.half, x.b, g, r, e)
		}
	}
}

// P3.5: byte by byte a valid text gives its runes, and nothing is left behind it.
func TestFedTextGivesItsRunes(t *testing.T) {
	for _, s := range texts() {
		runes, half := []string{}, ""
		for i := range len(s) {
			rest, rune, e := utf.Feed(half, s[i])
			if e != api.OK {
				t.Fatalf("%q, byte %d: error %d", s, i, e)
			}
			if rune != "" {
				runes = append(runes, rune)
			}
			half = rest
		}
		if half != "" || len(runes) != utf.Count(s) || strings.Join(runes, "") != s {
			t.Errorf("%q: %q, left %q", s, runes, half)
		}
		for k, rune := range runes {
			if r := utf.Rune(s, utf.Offset(s, k)); r != rune {
				t.Errorf("%q: rune %d is %q, not %q", s, k, r, rune)
			}
		}
	}
}

// P3.5: forwards from the beginning to the end, and back, over all of a text.
func TestThereAndBack(t *testing.T) {
	for _, s := range texts() {
		at, gone := 0, ""
		for utf.Next(s, at) >= 0 {
			gone += utf.Rune(s, at)
			if back := utf.Prev(s, utf.Next(s, at)); back != at {
				t.Fatalf("%q: back from behind %d to %d", s, at, back)
			}
			at = utf.Next(s, at)
		}
		if at != len(s) || gone != s {
			t.Errorf("%q: to %d, over %q", s, at, gone)
		}
		gone = ""
		for utf.Prev(s, at) >= 0 {
			at = utf.Prev(s, at)
			gone = utf.Rune(s, at) + gone
		}
		if at != 0 || gone != s {
			t.Errorf("%q: back to %d, over %q", s, at, gone)
		}
	}
}

// shared tells whether two texts lie in the same memory.
func shared(a, b string) bool {
	from, to := uintptr(unsafe.Pointer(unsafe.StringData(a))), uintptr(unsafe.Pointer(unsafe.StringData(b)))
	return from < to+uintptr(len(b)) && to < from+uintptr(len(a))
}

// An answer is new memory.
func TestAnswersAreNew(t *testing.T) {
	s := strings.Clone("\u20ac\U0001f600ab")
	half := strings.Clone("\xf0\x9f")
	rest, _, _ := utf.Feed(half, 0x98)
	for _, answer := range []string{utf.Rune(s, 0), utf.Rune(s, 3), utf.Cut(s, 5), utf.Cut(s, len(s)), rest} {
		if answer == "" || shared(answer, s) || shared(answer, half) {
			t.Errorf("%q", answer)
		}
	}
}
