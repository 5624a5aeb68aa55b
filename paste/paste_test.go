package paste_test

import (
	"math"
	"math/rand"
	"slices"
	"strings"
	"testing"
	"unicode/utf8"
	"unsafe"

	"calamus/api"
	"calamus/paste"
)

// texts are valid ones: all of up to some runes of a letter, blanks, tabs and line feeds, of longer runes with them, and some by hand.
func texts() []string {
	l := made([]string{"a", " ", "\n"}, 4)
	l = append(l, made([]string{"B", "\t", "\n", "\u00e9"}, 3)...)
	return append(l, byHand()...)
}

// byHand are texts as they are written.
func byHand() []string {
	return []string{
		"ab c\n\t x\n\nEnd", "a\u00e9\n\nxyZ", "one\n  Three\n\n\n\tf \n", "\n\n\n", "\u20ac\n\U0001f600\n \u00e9\n", "a \n b\n\t\n \nc\t\n\t d",
		// What ends no line of layer 4, and is no blank, though it is elsewhere.
		"a\r\nb\r\n", "a\rb\vc\n\fd\u0085e\n\u2028f\n\u00a0g", "a\x00\n\x7fb",
		// Runes with a byte that has the low bits of a line feed, a blank, a tab or a letter.
		"\u010a\n\u0a0a\u8a8a\n\u0120\u0109", "\ufffd\n\ufeff", "\u0141\u0161\n\u00c0\u00e0\u0391\u03b1",
	}
}

// made are all texts of up to n of these runes.
func made(runes []string, n int) []string {
	l := []string{""}
	for from := 0; n > 0; n-- {
		to := len(l)
		for _, s := range l[from:to] {
			for _, r := range runes {
				l = append(l, s+r)
			}
		}
		from = to
	}
	return l
}

// regs are registers: all short texts, and some longer ones, as lines and not.
func regs() []api.Reg {
	l := []api.Reg{}
	for _, s := range append(made([]string{"x", " ", "\n"}, 2), "\t", "xy", "x\ny", " \t", "\n \n", "\u00e9", "x\u20ac", "\u20ac\n", "\U0001f600\u00e9") {
		l = append(l, api.Reg{Text: s}, api.Reg{Text: s, Lines: true})
	}
	return l
}

// wrong are bytes that are no valid texts, with lines ahead of what is wrong and behind it.
func wrong() []string {
	l := []string{
		"\xff", "\x80", "\xc3", "\xc3a", "\xe2\x82", "\xe2\x82\n", "\xf0\x9f\x98", "\xc0\x8a", "\xe0\x80\x8a", "\xed\xa0\x80", "\xf4\x90\x80\x80", "\u00e9\x80",
	}
	for _, s := range l {
		l = append(l, "ab\n"+s, s+"\nab", "a\n"+s+"\nb", "\n\n"+s, s+"\n\n")
	}
	return l
}

// signs are keys that may be put over others: all signs of one byte, the tab, and longer ones.
func signs() []string {
	l := []string{"\t", "\u0080", "\u00a0", "\u00e9", "\u07ff", "\u0800", "\u20ac", "\u2028", "\ud7ff", "\ue000", "\ufffd", "\uffff", "\U00010000", "\U0001f600", "\U0010ffff"}
	for b := byte(32); b < 127; b++ {
		l = append(l, string(rune(b)))
	}
	return l
}

// noSigns are all others: the rest of one byte, and what is not one rune.
func noSigns() []string {
	l := []string{"", "\x7f", "ab", "\t\t", "\ta", "a\t", " a", "\u00e9a", "a\u00e9", "\u00e9\u00e9", "<Tab>", "<lt>", "a\n", "\na", "\ufeff\u200d", "a\x00"}
	for b := range rune(32) {
		if b != '\t' {
			l = append(l, string(b))
		}
	}
	return append(l, wrong()...)
}

// far are numbers beyond all texts, from both ends of what a number can be.
func far() []int {
	return []int{math.MinInt, math.MinInt + 1, math.MinInt32, math.MaxInt32, 1 << 32, 1 << 60, 1 << 61, 1 << 62, math.MaxInt/2 + 1, math.MaxInt/3 + 1, math.MaxInt - 1, math.MaxInt}
}

// places are where a text's runes begin, and its end.
func places(t string) []int {
	l := []int{}
	for p := range t {
		l = append(l, p)
	}
	return append(l, len(t))
}

// place tells whether p is a place of a text, and that valid.
func place(t string, p int) bool { return utf8.ValidString(t) && slices.Contains(places(t), p) }

// clamp is the normal place of a place.
func clamp(t string, p int) int {
	before, _ := utf8.DecodeLastRuneInString(t[:p])
	if (p == len(t) || t[p] == '\n') && p > 0 && before != '\n' {
		return p - utf8.RuneLen(before)
	}
	return p
}

// first is where the first rune of a line is that is neither a blank nor a tab, or the line's last one, or its start.
func first(t string, k int) int {
	rows := strings.Split(t, "\n")
	at := 0
	for _, s := range rows[:k] {
		at += len(s) + 1
	}
	rest := strings.TrimLeft(rows[k], " \t")
	at += len(rows[k]) - len(rest)
	if rest == "" {
		return clamp(t, at)
	}
	return at
}

// row is what is left of its line from a place on, rune by rune.
func row(t string, p int) []string {
	rest, _, _ := strings.Cut(t[p:], "\n")
	return strings.Split(rest, "")
}

// answer is what is told.
type answer struct {
	text string
	at   int
	e    api.Errno
}

// told is what a function tells.
func told(s string, p int, e api.Errno) answer { return answer{s, p, e} }

// whereto is where what is no lines is put in.
func whereto(t string, p int, ahead bool) int {
	if l := row(t, p); !ahead && len(l) > 0 {
		return p + len(l[0])
	}
	return p
}

// wantPut is what the chapter says: whole lines are put in among those that there are, others byte by byte.
func wantPut(t string, p int, r api.Reg, ahead bool, n int) answer {
	if !place(t, p) || !utf8.ValidString(r.Text) {
		return answer{e: api.ErrArg}
	}
	if r.Text == "" && !r.Lines {
		return answer{e: api.ErrNone}
	}
	n = max(n, 1)
	// Each time there is at least one byte more; what is far too long is not put together.
	if n > 4096 || n*len(r.Text) > 4096 {
		return answer{e: api.ErrRoom}
	}
	s, at := "", 0
	if r.Lines {
		k := strings.Count(t[:p], "\n")
		if !ahead {
			k++
		}
		s = strings.Join(slices.Insert(strings.Split(t, "\n"), k, slices.Repeat([]string{r.Text}, n)...), "\n")
		at = first(s, k)
	} else {
		at = whereto(t, p, ahead)
		s = t[:at] + strings.Repeat(r.Text, n) + t[at:]
		if strings.Contains(r.Text, "\n") {
			at = clamp(s, at)
		} else {
			_, size := utf8.DecodeLastRuneInString(r.Text)
			at += n*len(r.Text) - size
		}
	}
	if len(s) > 4096 {
		return answer{e: api.ErrRoom}
	}
	return answer{s, at, api.OK}
}

// wantFlip is what the chapter says: rune by rune.
func wantFlip(t string, p, n int) answer {
	if !place(t, p) {
		return answer{e: api.ErrArg}
	}
	l := row(t, p)
	if len(l) == 0 {
		return answer{e: api.ErrMove}
	}
	const one, other = "abcdefghijklmnopqrstuvwxyzABCDEFGHIJKLMNOPQRSTUVWXYZ", "ABCDEFGHIJKLMNOPQRSTUVWXYZabcdefghijklmnopqrstuvwxyz"
	s, at := t[:p], p
	for _, r := range l[:min(max(n, 1), len(l))] {
		at += len(r)
		if i := strings.Index(one, r); i >= 0 {
			r = other[i : i+1]
		}
		s += r
	}
	s += t[at:]
	return answer{s, clamp(s, at), api.OK}
}

// wantOver is what the chapter says, of a key that may be put over others: rune by rune.
func wantOver(t string, p int, k string, n int) answer {
	if !place(t, p) {
		return answer{e: api.ErrArg}
	}
	l, n := row(t, p), max(n, 1)
	if n > len(l) {
		return answer{e: api.ErrMove}
	}
	s := t[:p] + strings.Repeat(k, n) + strings.Join(l[n:], "") + t[p+len(strings.Join(l, "")):]
	if len(s) > 4096 {
		return answer{e: api.ErrRoom}
	}
	return answer{s, p + n*len(k) - len(k), api.OK}
}

// holds holds what is told against what is wanted: beside an error nothing is told, without one a valid text and a place of it.
func holds(t *testing.T, what string, s string, more any, got, want answer) {
	t.Helper()
	if got != want {
		t.Fatalf("%s(%q, %#v): %q, %d, error %d, not %q, %d, error %d", what, s, more, got.text, got.at, got.e, want.text, want.at, want.e)
	}
	if !place(got.text, got.at) {
		t.Fatalf("%s(%q, %#v): %q, %d: not valid, or no place", what, s, more, got.text, got.at)
	}
}

// holdsPut holds a register put in, ahead and behind, against the chapter's words.
func holdsPut(t *testing.T, s string, p int, r api.Reg, n int) {
	t.Helper()
	for _, ahead := range []bool{false, true} {
		holds(t, "Put", s, []any{p, r, ahead, n}, told(paste.Put(s, p, r, ahead, n)), wantPut(s, p, r, ahead, n))
	}
}

// holdsOthers holds what is flipped and what is put over others against the chapter's words.
func holdsOthers(t *testing.T, s string, p, n int) {
	t.Helper()
	holds(t, "Flip", s, []any{p, n}, told(paste.Flip(s, p, n)), wantFlip(s, p, n))
	for _, k := range []string{"x", "\t", "\u00e9", "\U0001f600"} {
		holds(t, "Over", s, []any{p, k, n}, told(paste.Over(s, p, k, n)), wantOver(s, p, k, n))
	}
}

// P24.1: by hand: what is no lines, with the place of its last rune, or, if it has a line feed, where it stands.
func TestPut(t *testing.T) {
	const s = "ab\n\n \u00e9"
	for _, x := range []struct {
		p     int
		text  string
		ahead bool
		n     int
		want  answer
	}{
		{0, "xy", false, 1, answer{"axyb\n\n \u00e9", 2, api.OK}},
		{0, "xy", true, 1, answer{"xyab\n\n \u00e9", 1, api.OK}},
		{0, "xy", false, 3, answer{"axyxyxyb\n\n \u00e9", 6, api.OK}},
		{0, "xy", true, 0, answer{"xyab\n\n \u00e9", 1, api.OK}},
		{0, "xy", true, -3, answer{"xyab\n\n \u00e9", 1, api.OK}},
		{1, "x\u20ac", false, 2, answer{"abx\u20acx\u20ac\n\n \u00e9", 7, api.OK}},
		{1, " ", false, 1, answer{"ab \n\n \u00e9", 2, api.OK}},
		// On a line feed, in a line without runes, and at the text's end there is no rune to be behind.
		{2, "x", false, 1, answer{"abx\n\n \u00e9", 2, api.OK}},
		{2, "x", true, 1, answer{"abx\n\n \u00e9", 2, api.OK}},
		{3, "x", false, 1, answer{"ab\nx\n \u00e9", 3, api.OK}},
		{7, "x", false, 1, answer{"ab\n\n \u00e9x", 7, api.OK}},
		{7, "x", true, 1, answer{"ab\n\n \u00e9x", 7, api.OK}},
		{5, "x", false, 1, answer{"ab\n\n \u00e9x", 7, api.OK}},
		{5, "x", true, 1, answer{"ab\n\n x\u00e9", 5, api.OK}},
		// With a line feed, where it stands may be no normal place.
		{0, "1\n2", false, 1, answer{"a1\n2b\n\n \u00e9", 1, api.OK}},
		{0, "1\n2", false, 2, answer{"a1\n21\n2b\n\n \u00e9", 1, api.OK}},
		{0, "\n1", false, 1, answer{"a\n1b\n\n \u00e9", 0, api.OK}},
		{0, "\n", true, 1, answer{"\nab\n\n \u00e9", 0, api.OK}},
		{1, "1\n", false, 1, answer{"ab1\n\n\n \u00e9", 2, api.OK}},
		{1, "\n", false, 2, answer{"ab\n\n\n\n \u00e9", 1, api.OK}},
		{3, "\n", true, 1, answer{"ab\n\n\n \u00e9", 3, api.OK}},
		{7, "\n", true, 1, answer{"ab\n\n \u00e9\n", 5, api.OK}},
		{7, "  \n", true, 1, answer{"ab\n\n \u00e9  \n", 7, api.OK}},
	} {
		holds(t, "Put", s, x, told(paste.Put(s, x.p, api.Reg{Name: 'a', Text: x.text}, x.ahead, x.n)), x.want)
	}
	holds(t, "Put", "", "a", told(paste.Put("", 0, api.Reg{Text: "a"}, false, 1)), answer{"a", 0, api.OK})
	holds(t, "Put", "", "a fed", told(paste.Put("", 0, api.Reg{Text: "a\n"}, true, 2)), answer{"a\na\n", 0, api.OK})
}

// P24.1: by hand: whole lines, with First of the first one that was put in.
func TestPutLines(t *testing.T) {
	const s = "ab\n\n \u00e9"
	for _, x := range []struct {
		p     int
		text  string
		ahead bool
		n     int
		want  answer
	}{
		{0, "xy", false, 1, answer{"ab\nxy\n\n \u00e9", 3, api.OK}},
		{1, "xy", false, 2, answer{"ab\nxy\nxy\n\n \u00e9", 3, api.OK}},
		{2, " xy", false, 1, answer{"ab\n xy\n\n \u00e9", 4, api.OK}},
		{0, "xy", true, 1, answer{"xy\nab\n\n \u00e9", 0, api.OK}},
		{2, "\t xy", true, 2, answer{"\t xy\n\t xy\nab\n\n \u00e9", 2, api.OK}},
		{3, "xy", false, 0, answer{"ab\n\nxy\n \u00e9", 4, api.OK}},
		{3, "xy", true, -1, answer{"ab\nxy\n\n \u00e9", 3, api.OK}},
		{5, "xy", false, 1, answer{"ab\n\n \u00e9\nxy", 8, api.OK}},
		{7, "xy", false, 2, answer{"ab\n\n \u00e9\nxy\nxy", 8, api.OK}},
		{7, "xy", true, 1, answer{"ab\n\nxy\n \u00e9", 4, api.OK}},
		// Lines of blanks alone, without runes, and several at once.
		{0, " \t", false, 1, answer{"ab\n \t\n\n \u00e9", 4, api.OK}},
		{0, "", false, 1, answer{"ab\n\n\n \u00e9", 3, api.OK}},
		{0, "", true, 2, answer{"\n\nab\n\n \u00e9", 0, api.OK}},
		{7, "", false, 1, answer{"ab\n\n \u00e9\n", 8, api.OK}},
		{0, " x\n y", false, 2, answer{"ab\n x\n y\n x\n y\n\n \u00e9", 4, api.OK}},
		{0, "\n x", false, 1, answer{"ab\n\n x\n\n \u00e9", 3, api.OK}},
		{4, " x\ny", true, 1, answer{"ab\n\n x\ny\n \u00e9", 5, api.OK}},
	} {
		holds(t, "Put", s, x, told(paste.Put(s, x.p, api.Reg{Name: 'a', Lines: true, Text: x.text}, x.ahead, x.n)), x.want)
	}
	holds(t, "Put", "", "lines", told(paste.Put("", 0, api.Reg{Lines: true, Text: "a"}, false, 1)), answer{"\na", 1, api.OK})
	holds(t, "Put", "", "lines", told(paste.Put("", 0, api.Reg{Lines: true, Text: "a"}, true, 1)), answer{"a\n", 0, api.OK})
	holds(t, "Put", "", "lines", told(paste.Put("", 0, api.Reg{Lines: true}, false, 2)), answer{"\n\n", 1, api.OK})
	holds(t, "Put", "\n", "lines", told(paste.Put("\n", 1, api.Reg{Lines: true, Text: "a"}, false, 1)), answer{"\n\na", 2, api.OK})
}

// P24.1: a wrong place, or wrong bytes, are told ahead of a register without bytes, and that ahead of what has no room; a register's name is not asked for.
func TestPutErrors(t *testing.T) {
	full := strings.Repeat("a", 4097)
	for _, x := range []struct {
		s string
		p int
		r api.Reg
		n int
		e api.Errno
	}{
		{"\u00e9", 1, api.Reg{Text: "x"}, 1, api.ErrArg}, {"\u00e9", -1, api.Reg{Text: "x"}, 1, api.ErrArg}, {"\u00e9", 3, api.Reg{Text: "x"}, 1, api.ErrArg},
		{"a", 2, api.Reg{Lines: true, Text: "x"}, 1, api.ErrArg}, {"a", 0, api.Reg{Text: "\xc3"}, 1, api.ErrArg}, {"a", 0, api.Reg{Lines: true, Text: "x\xff"}, 1, api.ErrArg},
		{"a", 2, api.Reg{}, 1, api.ErrArg}, {"\xff", 0, api.Reg{}, 1, api.ErrArg}, {full, 4098, api.Reg{Text: "x"}, 1, api.ErrArg}, {full, 0, api.Reg{Text: "\xff"}, 1, api.ErrArg}, {full + "\xff", 0, api.Reg{Text: "x"}, 1, api.ErrArg},
		{"a", 0, api.Reg{}, 1, api.ErrNone}, {"", 0, api.Reg{Name: '"'}, 1, api.ErrNone}, {full, 0, api.Reg{}, math.MaxInt, api.ErrNone}, {"", 0, api.Reg{}, math.MinInt, api.ErrNone},
		{full, 0, api.Reg{Text: "x"}, 1, api.ErrRoom}, {full, 0, api.Reg{Lines: true}, 1, api.ErrRoom}, {"", 0, api.Reg{Text: full}, 0, api.ErrRoom}, {"", 0, api.Reg{Text: full + "\n"}, 1, api.ErrRoom},
	} {
		for _, ahead := range []bool{false, true} {
			holds(t, "Put", x.s[:min(len(x.s), 9)], x.r.Text[:min(len(x.r.Text), 9)], told(paste.Put(x.s, x.p, x.r, ahead, x.n)), answer{e: x.e})
		}
	}
	for _, name := range append(far(), -1, 0, 1, 'A', 'z', 300) {
		holds(t, "Put", "ab", name, told(paste.Put("ab", 0, api.Reg{Name: name, Text: "x"}, false, 1)), answer{"axb", 1, api.OK})
	}
}

// P24.1: a text may have MaxText bytes then, and no more, however often something is put in.
func TestPutRoom(t *testing.T) {
	for _, size := range []int{0, 1, 2, 4090, 4091, 4092, 4093, 4094, 4095, 4096, 4097, 5000} {
		for _, r := range []api.Reg{
			{Text: "x"}, {Text: "xy"}, {Text: "\u20ac"}, {Text: "\n"}, {Text: strings.Repeat("x", 2048)}, {Text: strings.Repeat("x", 4095)}, {Text: strings.Repeat("x", 4096)}, {Text: strings.Repeat("x", 4097)},
			{Lines: true}, {Lines: true, Text: "x"}, {Lines: true, Text: "xy"}, {Lines: true, Text: strings.Repeat("x", 2047)}, {Lines: true, Text: strings.Repeat("x", 4094)}, {Lines: true, Text: strings.Repeat("x", 4095)}, {Lines: true, Text: strings.Repeat("x", 4096)},
		} {
			for _, n := range append(far(), -1, 0, 1, 2, 3, 4, 5, 6, 7, 1364, 1365, 1366, 2047, 2048, 2049, 4094, 4095, 4096, 4097, 1<<62+1, math.MaxInt/2, math.MaxInt/3) {
				holdsPut(t, strings.Repeat("a", size), size/2, r, n)
			}
		}
	}
}

// P24.1: all registers at all places of all texts, and at numbers beside them, with all counts.
func TestPutTexts(t *testing.T) {
	all := regs()
	for _, s := range texts() {
		for p := -1; p <= len(s)+1; p++ {
			for _, r := range all {
				for n := -1; n <= 3; n++ {
					holdsPut(t, s, p, r, n)
				}
			}
		}
	}
}

// P24.2: by hand: letters a to z and A to Z alone, within the line, and where the cursor goes.
func TestFlip(t *testing.T) {
	const s = "aB1z\n\n \u00e9Q"
	for _, x := range []struct {
		p, n int
		want answer
	}{
		{0, 1, answer{"AB1z\n\n \u00e9Q", 1, api.OK}},
		{0, 2, answer{"Ab1z\n\n \u00e9Q", 2, api.OK}},
		{1, 2, answer{"ab1z\n\n \u00e9Q", 3, api.OK}},
		{2, 1, answer{s, 3, api.OK}},
		{2, 2, answer{"aB1Z\n\n \u00e9Q", 3, api.OK}},
		{0, 4, answer{"Ab1Z\n\n \u00e9Q", 3, api.OK}},
		{0, 5, answer{"Ab1Z\n\n \u00e9Q", 3, api.OK}},
		{3, 9, answer{"aB1Z\n\n \u00e9Q", 3, api.OK}},
		{0, 0, answer{"AB1z\n\n \u00e9Q", 1, api.OK}},
		{0, -9, answer{"AB1z\n\n \u00e9Q", 1, api.OK}},
		{6, 1, answer{s, 7, api.OK}},
		{6, 2, answer{s, 9, api.OK}},
		{7, 2, answer{"aB1z\n\n \u00e9q", 9, api.OK}},
		{9, 1, answer{"aB1z\n\n \u00e9q", 9, api.OK}},
		{6, math.MaxInt, answer{"aB1z\n\n \u00e9q", 9, api.OK}},
		// There is no rune in the line.
		{4, 1, answer{e: api.ErrMove}}, {5, 1, answer{e: api.ErrMove}}, {10, 1, answer{e: api.ErrMove}}, {10, 0, answer{e: api.ErrMove}},
		{8, 1, answer{e: api.ErrArg}}, {-1, 1, answer{e: api.ErrArg}}, {11, 1, answer{e: api.ErrArg}},
	} {
		holds(t, "Flip", s, x, told(paste.Flip(s, x.p, x.n)), x.want)
	}
	holds(t, "Flip", "", 0, told(paste.Flip("", 0, 1)), answer{e: api.ErrMove})
	holds(t, "Flip", "a", 0, told(paste.Flip("a", 0, 1)), answer{"A", 0, api.OK})
	all := ""
	for r := range rune(0x250) {
		if r != '\n' {
			all += string(r)
		}
	}
	all += "\u0391\u03b1\u0410\u0430\u1e9e\u212a\u24d0\uff21\uff41\U00010400\U00010428"
	holdsOthers(t, all, 0, 1000)
}

// P24.2: what a text has is not counted, since there are as many bytes behind.
func TestFlipHasRoom(t *testing.T) {
	full := strings.Repeat("a", 5000)
	holds(t, "Flip", "5000 a", 4999, told(paste.Flip(full, 0, 4999)), answer{strings.Repeat("A", 4999) + "a", 4999, api.OK})
}

// P24.3: by hand: with the place of the last one that was put over others.
func TestOver(t *testing.T) {
	const s = "ab\n\n c\u00e9"
	for _, x := range []struct {
		p    int
		k    string
		n    int
		want answer
	}{
		{0, "x", 1, answer{"xb\n\n c\u00e9", 0, api.OK}},
		{0, "x", 2, answer{"xx\n\n c\u00e9", 1, api.OK}},
		{1, "x", 1, answer{"ax\n\n c\u00e9", 1, api.OK}},
		{0, "x", 0, answer{"xb\n\n c\u00e9", 0, api.OK}},
		{1, "x", -7, answer{"ax\n\n c\u00e9", 1, api.OK}},
		{0, "\t", 2, answer{"\t\t\n\n c\u00e9", 1, api.OK}},
		{0, "\u20ac", 2, answer{"\u20ac\u20ac\n\n c\u00e9", 3, api.OK}},
		{4, "x", 3, answer{"ab\n\nxxx", 6, api.OK}},
		{5, "\U0001f600", 2, answer{"ab\n\n \U0001f600\U0001f600", 9, api.OK}},
		{6, "<", 1, answer{"ab\n\n c<", 6, api.OK}},
		{4, " ", 2, answer{"ab\n\n  \u00e9", 5, api.OK}},
		{0, "a", 1, answer{s, 0, api.OK}},
		// There are too few in the line, or none.
		{0, "x", 3, answer{e: api.ErrMove}}, {1, "x", 2, answer{e: api.ErrMove}}, {4, "x", 4, answer{e: api.ErrMove}}, {0, "x", math.MaxInt, answer{e: api.ErrMove}},
		{2, "x", 1, answer{e: api.ErrMove}}, {3, "x", 1, answer{e: api.ErrMove}}, {8, "x", 1, answer{e: api.ErrMove}}, {8, "x", 0, answer{e: api.ErrMove}},
		// No place is told ahead of no sign, and that ahead of too few.
		{7, "x", 1, answer{e: api.ErrArg}}, {-1, "\n", 1, answer{e: api.ErrArg}}, {9, "", 9, answer{e: api.ErrArg}},
		{0, "\n", 1, answer{e: api.ErrKey}}, {0, "\r", 1, answer{e: api.ErrKey}}, {0, "\x1b", 9, answer{e: api.ErrKey}}, {2, "", 1, answer{e: api.ErrKey}}, {8, "xy", 1, answer{e: api.ErrKey}},
	} {
		holds(t, "Over", s, x, told(paste.Over(s, x.p, x.k, x.n)), x.want)
	}
	holds(t, "Over", "", "x", told(paste.Over("", 0, "x", 1)), answer{e: api.ErrMove})
	holds(t, "Over", "", "", told(paste.Over("", 0, "", 1)), answer{e: api.ErrKey})
}

// P24.3: signs and tabs, and nothing else.
func TestOverKeys(t *testing.T) {
	const s = "a\u00e9c\n"
	for _, k := range signs() {
		for p := -1; p <= len(s)+1; p++ {
			for n := -1; n <= 4; n++ {
				holds(t, "Over", s, []any{p, k, n}, told(paste.Over(s, p, k, n)), wantOver(s, p, k, n))
			}
		}
	}
	for _, k := range noSigns() {
		for p := -1; p <= len(s)+1; p++ {
			for _, n := range append(far(), -1, 0, 1, 3, 4) {
				want := answer{e: api.ErrKey}
				if !place(s, p) {
					want.e = api.ErrArg
				}
				holds(t, "Over", s, []any{p, k, n}, told(paste.Over(s, p, k, n)), want)
			}
		}
	}
}

// P24.3: a text may have MaxText bytes then, and no more; what goes is counted, too.
func TestOverRoom(t *testing.T) {
	for _, size := range []int{4080, 4091, 4092, 4093, 4094, 4095, 4096, 4097, 4098, 4100, 4104, 5000} {
		for _, end := range []string{"bbb", "\u00e9\u00e9\u00e9", "\u20ac\u20ac\u20ac", "\U0001f600\U0001f600\U0001f600"} {
			s := strings.Repeat("a", size-len(end)) + end
			for n := 1; n <= 4; n++ {
				holdsOthers(t, s, size-len(end), n)
				holdsOthers(t, s, 0, n)
			}
		}
	}
	full, long := strings.Repeat("a", 1024), strings.Repeat("a", 4097)
	holds(t, "Over", "1024 a", 1024, told(paste.Over(full, 0, "\U0001f600", 1024)), answer{strings.Repeat("\U0001f600", 1024), 4092, api.OK})
	holds(t, "Over", "1025 a", 1025, told(paste.Over(full+"a", 0, "\U0001f600", 1025)), answer{e: api.ErrRoom})
	holds(t, "Over", "1025 a", 1024, told(paste.Over(full+"a", 0, "\U0001f600", 1024)), answer{e: api.ErrRoom})
	// Other errors are told ahead of that.
	holds(t, "Over", "4097 a", "beside it", told(paste.Over(long, 4098, "a", 1)), answer{e: api.ErrArg})
	holds(t, "Over", "4097 a", "no sign", told(paste.Over(long, 0, "\n", 1)), answer{e: api.ErrKey})
	holds(t, "Over", "4097 a", "too many", told(paste.Over(long, 0, "a", 4098)), answer{e: api.ErrMove})
	holds(t, "Over", "4097 a", "at its end", told(paste.Over(long, 4097, "a", 1)), answer{e: api.ErrMove})
	holds(t, "Over", "4097 a", "as it was", told(paste.Over(long, 0, "a", 4097)), answer{e: api.ErrRoom})
}

// P24.2, P24.3: at all places of all texts, and at numbers beside them, with all counts, and far ones.
func TestOthersTexts(t *testing.T) {
	for _, s := range texts() {
		for p := -1; p <= len(s)+1; p++ {
			for n := -1; n <= len(s)+1; n++ {
				holdsOthers(t, s, p, n)
			}
			for _, n := range far() {
				holdsOthers(t, s, p, n)
			}
		}
	}
}

// P24.1 to P24.3: far numbers are no places, and of what is not valid all is refused, also where what is wrong is in another line.
func TestNoPlaces(t *testing.T) {
	refused := func(s string, p int) {
		t.Helper()
		want := answer{e: api.ErrArg}
		for _, n := range []int{math.MinInt, 1, 2, math.MaxInt} {
			for _, r := range []api.Reg{{}, {Text: "x"}, {Text: "x\n"}, {Lines: true, Text: "x"}, {Text: "\xff"}} {
				for _, ahead := range []bool{false, true} {
					holds(t, "Put", s, []any{p, r, ahead, n}, told(paste.Put(s, p, r, ahead, n)), want)
				}
			}
			holds(t, "Flip", s, []any{p, n}, told(paste.Flip(s, p, n)), want)
			for _, k := range []string{"x", "\t", "\n", "", "\xff"} {
				holds(t, "Over", s, []any{p, k, n}, told(paste.Over(s, p, k, n)), want)
			}
		}
	}
	for _, s := range []string{"", "\n", "ab\ncd"} {
		for _, p := range far() {
			refused(s, p)
		}
	}
	for _, s := range wrong() {
		if utf8.ValidString(s) {
			t.Fatalf("%q is valid", s)
		}
		for p := -1; p <= len(s)+1; p++ {
			refused(s, p)
		}
		// The register's text counts as well, wherever it is put.
		for _, whole := range []bool{false, true} {
			for _, ahead := range []bool{false, true} {
				r := api.Reg{Lines: whole, Text: s}
				holds(t, "Put", "a\n", r, told(paste.Put("a\n", 2, r, ahead, 1)), answer{e: api.ErrArg})
			}
		}
	}
}

// P24.4: without what was put in the text is as before; what is taken out is told by the cursor, where that is enough.
func TestTakenOut(t *testing.T) {
	for _, s := range texts() {
		for _, p := range places(s) {
			for _, r := range regs() {
				for i := range 6 {
					n, ahead := i/2+1, i%2 > 0
					behind, at, e := paste.Put(s, p, r, ahead, n)
					if r == (api.Reg{}) {
						continue
					}
					size := n * len(r.Text)
					from := whereto(s, p, ahead)
					switch _, last := utf8.DecodeLastRuneInString(r.Text); {
					case r.Lines:
						size += n
						from = strings.LastIndexByte(behind[:at], '\n') + 1
						if !ahead {
							from-- // The line feed ahead of what was put in has come with it.
						}
					case !strings.Contains(r.Text, "\n"):
						from = at + last - size
					}
					if e != api.OK || from < 0 || from+size > len(behind) || behind[:from]+behind[from+size:] != s {
						t.Fatalf("%q, %d, %#v, %v, %d: %q, %d, error %d", s, p, r, ahead, n, behind, at, e)
					}
				}
			}
		}
	}
}

// P24.4: what is flipped twice is the same.
func TestFlippedTwice(t *testing.T) {
	for _, s := range texts() {
		for _, p := range places(s) {
			for n := range 5 {
				there, one, e := paste.Flip(s, p, n)
				if e != api.OK {
					continue
				}
				if back, two, e := paste.Flip(there, p, n); back != s || two != one || e != api.OK {
					t.Fatalf("%q, %d, %d: %q, and %q, %d, error %d", s, p, n, there, back, two, e)
				}
			}
		}
	}
}

// P24.1 to P24.3: longer texts of all kinds of runes.
func TestSome(t *testing.T) {
	random := rand.New(rand.NewSource(24))
	runes := []string{"a", "Z", " ", "\t", "\n", "\n", ".", "\u00e9", "\u20ac", "\U0001f600"}
	text := func(n int) string {
		s := ""
		for range random.Intn(n) {
			s += runes[random.Intn(len(runes))]
		}
		return s
	}
	for range 3000 {
		s := text(60)
		all := places(s)
		for range 10 {
			p := all[random.Intn(len(all))]
			holdsPut(t, s, p, api.Reg{Lines: random.Intn(2) > 0, Text: text(9)}, random.Intn(8)-1)
			holdsOthers(t, s, p, random.Intn(12)-1)
		}
	}
}

// An answer is new memory, also where nothing stands around what is put in, or nothing was done.
func TestAnswersAreNew(t *testing.T) {
	// Of texts that were made this way all that is not copied on purpose would be shared.
	s, put, k := strings.Repeat("1\n\n2.\n", 2), strings.Repeat("3", 9), strings.Repeat("4", 1)
	apart := func(what string, text string) {
		t.Helper()
		at := uintptr(unsafe.Pointer(unsafe.StringData(text)))
		for _, other := range []string{s, put, k} {
			from := uintptr(unsafe.Pointer(unsafe.StringData(other)))
			if text != "" && from < at+uintptr(len(text)) && at < from+uintptr(len(other)) {
				t.Errorf("%s: %q", what, text)
			}
		}
	}
	for p := range len(s) + 1 {
		for i := range 4 {
			for _, r := range []api.Reg{{Text: put, Lines: i%2 > 0}, {Text: s, Lines: i%2 > 0}} {
				text, _, _ := paste.Put(s, p, r, i/2 > 0, 1)
				apart("Put", text)
				text, _, _ = paste.Put("", 0, r, i/2 > 0, 1)
				apart("Put", text)
			}
		}
		text, _, _ := paste.Flip(s, p, 1)
		apart("Flip", text)
		text, _, _ = paste.Over(s, p, k, 1)
		apart("Over", text)
	}
	text, _, _ := paste.Over("5", 0, k, 1)
	apart("Over", text)
}

// What is told hangs on nothing that was asked ahead, be it refused or not.
func TestNothingIsKept(t *testing.T) {
	for _, other := range append(byHand(), wrong()...) {
		for p := -1; p <= len(other)+1; p++ {
			paste.Put(other, p, api.Reg{Name: 'a', Text: other}, true, 3)
			paste.Put(other, p, api.Reg{Name: 'a', Lines: true, Text: other}, false, 2)
			paste.Flip(other, p, 9)
			paste.Over(other, p, "y", 2)
			const s = "aB\n \tc"
			holdsPut(t, s, 1, api.Reg{Text: "x"}, 1)
			holdsPut(t, s, 4, api.Reg{Lines: true, Text: " x"}, 2)
			holdsPut(t, s, 4, api.Reg{}, 2)
			holdsOthers(t, s, 0, 2)
			holdsOthers(t, s, 7, 1)
		}
	}
}

// Far counts and long texts do not take long, whatever is asked.
func TestLong(t *testing.T) {
	long := strings.Repeat("a\u00e9", 100000)
	all := strings.Repeat("A\u00e9", 100000)
	holds(t, "Flip", "long", "far", told(paste.Flip(long, 0, math.MaxInt)), answer{all, len(all) - 2, api.OK})
	holds(t, "Over", "long", "all", told(paste.Over(long, 0, "x", 200000)), answer{e: api.ErrRoom})
	holds(t, "Over", "long", "far", told(paste.Over(long, 0, "x", math.MaxInt)), answer{e: api.ErrMove})
	holds(t, "Put", "long", "far", told(paste.Put(long, 0, api.Reg{Text: "x"}, false, math.MaxInt)), answer{e: api.ErrRoom})
	holds(t, "Put", "", "long", told(paste.Put("", 0, api.Reg{Lines: true, Text: long}, false, math.MaxInt)), answer{e: api.ErrRoom})
	// What was too long, and is short enough behind, has room.
	holds(t, "Over", "euros", "x", told(paste.Over(strings.Repeat("\u20ac", 4096), 0, "x", 4096)), answer{strings.Repeat("x", 4096), 4095, api.OK})
	holds(t, "Over", "euros", "x", told(paste.Over(strings.Repeat("\u20ac", 4097), 0, "x", 4097)), answer{e: api.ErrRoom})
}
