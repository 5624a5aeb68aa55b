package key_test

import (
	"math/rand"
	"slices"
	"strings"
	"testing"
	"unicode/utf8"
	"unsafe"

	"calamus/api"
	"calamus/key"
)

// brackets are the keys whose names stand in brackets, and these, as the chapter has them.
func brackets() map[string]string {
	return map[string]string{
		"\x08": "<Back>", "\x09": "<Tab>", "\x0d": "<Enter>", "\x12": "<Redo>", "\x15": "<Wipe>", "\x17": "<Chop>", "\x1b": "<Esc>", "<": "<lt>",
	}
}

// name is the chapter's words of a rune's name; "" of one that is no key.
func name(n rune) string {
	if s := brackets()[string(n)]; s != "" {
		return s
	}
	if n < 32 || n == 127 {
		return ""
	}
	return string(n)
}

// wrong are bytes that are no valid texts: what goes on without a beginning, what does not end, more bytes than are needed, D800 and DFFF, what is above 10FFFF.
func wrong() []string {
	return []string{
		"\x80", "\xbf", "\xc3", "\xe2\x82", "\xf0\x9f\x98", "\xc3a", "\xe2\x82a", "\xc0\x80", "\xc0\x88", "\xc0\x9b", "\xc1\xa1", "\xe0\x80\x9b", "\xf0\x80\x80\xbc",
		"\xed\xa0\x80", "\xed\xbf\xbf", "\xf4\x90\x80\x80", "\xf8\x88\x80\x80\x80", "\xfe", "\xff", "\u00e9\x80",
	}
}

// edges are runes at the bounds of what is a key, and of how many bytes a rune has, and all below 128.
func edges() []rune {
	l := []rune{0x80, 0x81, 0x9F, 0xA0, 0xAD, 0xE9, 0x7FF, 0x800, 0x2028, 0x20AC, 0xD7FF, 0xE000, 0xFEFF, 0xFFFD, 0xFFFE, 0xFFFF, 0x10000, 0x1F600, 0x10FFFF}
	for n := range rune(128) {
		l = append(l, n)
	}
	return l
}

// isKey holds what is told of a text against whether it is a key, a sign, and its name.
func isKey(t *testing.T, k string, right, sign bool, name string) {
	t.Helper()
	if got := key.Right(k); got != right {
		t.Errorf("%q: key %t", k, got)
	}
	if got := key.Sign(k); got != sign {
		t.Errorf("%q: sign %t", k, got)
	}
	if got := key.Name(k); got != name {
		t.Errorf("%q: name %q, not %q", k, got, name)
	}
}

// spelt holds Text against a text and an error.
func spelt(t *testing.T, keys, want string, e api.Errno) {
	t.Helper()
	if s, got := key.Text(keys); s != want || got != e {
		t.Errorf("%q: text %q, error %d, not %q, %d", keys, s, got, want, e)
	}
}

// parsed holds Parse against keys and an error.
func parsed(t *testing.T, s, want string, e api.Errno) {
	t.Helper()
	if keys, got := key.Parse(s); keys != want || got != e {
		t.Errorf("%q: keys %q, error %d, not %q, %d", s, keys, got, want, e)
	}
}

// split holds Split against a list and an error.
func split(t *testing.T, keys string, want []string, e api.Errno) {
	t.Helper()
	if l, got := key.Split(keys); !slices.Equal(l, want) || got != e {
		t.Errorf("%q: %q, error %d, not %q, %d", keys, l, got, want, e)
	}
}

// P13.1: the keys that are no signs, by hand; the numbers are those of api.
func TestBrackets(t *testing.T) {
	l := []int{api.Back, api.Tab, api.Enter, api.Redo, api.Wipe, api.Chop, api.Esc}
	if !slices.Equal(l, []int{8, 9, 13, 18, 21, 23, 27}) {
		t.Error(l)
	}
	for k, name := range brackets() {
		isKey(t, k, true, k == "<", name)
	}
}

// P13.1: each rune there is.
func TestRunes(t *testing.T) {
	for n := rune(0); n <= utf8.MaxRune; n++ {
		if !utf8.ValidRune(n) {
			continue
		}
		want := name(n)
		isKey(t, string(n), want != "", n >= 32 && n != 127, want)
		if t.Failed() {
			t.Fatalf("%X", n)
		}
	}
}

// P13.1: what is no rune, or more than one, is no key, whatever it is made of.
func TestNoKey(t *testing.T) {
	l := []string{"", "ab", "aa", "  ", "<>", "<lt>", "<Esc>", "\x1b\x1b", "\x1ba", "a\x1b", "\u00e9\u00e9", "\u00e9a", "a\u00e9", "a\n", "\na", "e\u0301", strings.Repeat("a", 5000)}
	for _, a := range edges() {
		for _, b := range edges() {
			l = append(l, string(a)+string(b))
		}
	}
	for _, s := range wrong() {
		l = append(l, s, "a"+s, s+"a", s+"\x1b", "\x1b"+s)
	}
	for _, s := range l {
		isKey(t, s, false, false, "")
	}
}

// P13.2: keys by hand.
func TestSplit(t *testing.T) {
	for _, x := range []struct {
		keys string
		want []string
	}{
		{"", nil},
		{"a", []string{"a"}},
		{"\x1b", []string{"\x1b"}},
		{"ihi\x1b", []string{"i", "h", "i", "\x1b"}},
		{"<Esc>", []string{"<", "E", "s", "c", ">"}},
		{"\x08\x09\x0d\x12\x15\x17\x1b", []string{"\x08", "\x09", "\x0d", "\x12", "\x15", "\x17", "\x1b"}},
		{" ~\u0080\u00e9\u20ac\U0001f600", []string{" ", "~", "\u0080", "\u00e9", "\u20ac", "\U0001f600"}},
		{"e\u0301", []string{"e", "\u0301"}},
	} {
		split(t, x.keys, x.want, api.OK)
	}
	many := strings.Repeat("\u00e9\x1b", 5000)
	if l, e := key.Split(many); len(l) != 10000 || strings.Join(l, "") != many || e != api.OK {
		t.Errorf("%d keys, error %d", len(l), e)
	}
}

// P13.2: all texts of two runes from the edges: their runes, or an error if one is no key.
func TestSplitEdges(t *testing.T) {
	for _, a := range edges() {
		for _, b := range edges() {
			s := string(a) + string(b)
			if name(a) == "" || name(b) == "" {
				split(t, s, nil, api.ErrKey)
				spelt(t, s, "", api.ErrKey)
				continue
			}
			split(t, s, []string{string(a), string(b)}, api.OK)
			spelt(t, s, name(a)+name(b), api.OK)
		}
	}
}

// P13.2, P13.3: what is not valid is told ahead of what is no key, wherever both stand; nothing else is told then.
func TestErrors(t *testing.T) {
	for _, s := range []string{"\n", "\x00", "\x01", "\x07", "\x0a", "\x0e", "\x1a", "\x1c", "\x1f", "\x7f"} {
		for _, keys := range []string{s, "a" + s, s + "a", "\u00e9" + s + "<", s + s} {
			split(t, keys, nil, api.ErrKey)
			spelt(t, keys, "", api.ErrKey)
		}
		for _, w := range wrong() {
			split(t, s+w, nil, api.ErrText)
			split(t, w+s, nil, api.ErrText)
			spelt(t, s+w, "", api.ErrText)
			spelt(t, w+s, "", api.ErrText)
		}
	}
	for _, w := range wrong() {
		for _, keys := range []string{w, "a" + w, w + "a", "\x1b" + w, "<" + w + ">", "<" + w, "<Esc>" + w, "\t" + w} {
			split(t, keys, nil, api.ErrText)
			spelt(t, keys, "", api.ErrText)
			parsed(t, keys, "", api.ErrText)
		}
	}
}

// The chapter's example, and others by hand, there and back.
func TestText(t *testing.T) {
	for _, x := range []struct{ keys, text string }{
		{"d\x09\x1b<", "d<Tab><Esc><lt>"},
		{"", ""},
		{"a", "a"},
		{" ", " "},
		{">", ">"},
		{"<", "<lt>"},
		{"<<>>", "<lt><lt>>>"},
		{"<Esc>", "<lt>Esc>"},
		{"<lt>", "<lt>lt>"},
		{">\x1b>", "><Esc>>"},
		{"Esc\x1b", "Esc<Esc>"},
		{"\x08\x09\x0d\x12\x15\x17\x1b", "<Back><Tab><Enter><Redo><Wipe><Chop><Esc>"},
		{":s/a/\u00e9/g\x0d", ":s/a/\u00e9/g<Enter>"},
		{"~\u0080\ufffd\U0010ffff", "~\u0080\ufffd\U0010ffff"},
		{strings.Repeat("\x0d", 5000), strings.Repeat("<Enter>", 5000)},
	} {
		spelt(t, x.keys, x.text, api.OK)
		parsed(t, x.text, x.keys, api.OK)
	}
}

// P13.3: what is nobody's text: keys that are not written as themselves, names that are none, brackets that do not end.
func TestParseForm(t *testing.T) {
	l := []string{"<", "<<", "<>", "< >", "<a>", "<<>", "<lt", "<lt<", "lt<", "<Esc", "<Esc<lt>", "<<Esc>>", "<<lt>", "<lt<lt>>", "<gt>", "<LT>", "<Lt>", "<Space>", "<\u00e9>", "<\x1b>", "<\n>", "<lt\n>", "<BackTab>", "<Back Tab>", "<EscEsc>"}
	for k, name := range brackets() {
		in := name[1 : len(name)-1]
		l = append(l, "<"+strings.ToUpper(in)+">", "<"+in+" >", "< "+in+">", "<"+in+"s>", "<"+in[1:]+">", "<"+in[:len(in)-1]+">", name[:len(name)-1], "<"+name+">", "<"+in+in+">", "<"+in+"\x00>", in+"<", "<"+k+">")
		if in != "lt" {
			l = append(l, "<"+strings.ToLower(in)+">")
		}
	}
	for n := range rune(128) {
		if n < 32 || n == 127 {
			l = append(l, string(n), "a"+string(n), string(n)+"a", "<lt>"+string(n))
		}
	}
	for _, s := range l {
		for _, s := range []string{s, "ab" + s, "<Esc>" + s, ">" + s} {
			parsed(t, s, "", api.ErrForm)
		}
		parsed(t, s+"\xff", "", api.ErrText)
		parsed(t, "\xff"+s, "", api.ErrText)
	}
	// What is wrong ahead is not mended by what is right behind.
	for _, s := range []string{"<", "<x>", "\x1b", "\t"} {
		parsed(t, s+"ab<Esc>", "", api.ErrForm)
	}
}

// grown are all texts that are put together of at most n of these pieces.
func grown(pieces []string, n int) []string {
	l := []string{""}
	from := 0
	for range n {
		to := len(l)
		for _, s := range l[from:to] {
			for _, p := range pieces {
				l = append(l, s+p)
			}
		}
		from = to
	}
	return l
}

// P13.3, P13.4: of all texts of some pieces just those have keys that are the text of keys, and they have these.
func TestParseAll(t *testing.T) {
	of := map[string]string{}
	for _, keys := range grown([]string{"<", ">", "l", "t", "Esc", "\x1b", "\x09", "\u00e9"}, 5) {
		text := ""
		for _, r := range keys {
			text += name(r)
		}
		if was, ok := of[text]; ok {
			t.Fatalf("%q and %q have one text", was, keys)
		}
		of[text] = keys
	}
	for _, s := range grown([]string{"<", ">", "l", "t", "Esc", "\x1b", "\u00e9", "<Tab"}, 5) {
		if keys, ok := of[s]; ok {
			parsed(t, s, keys, api.OK)
			spelt(t, keys, s, api.OK)
		} else {
			parsed(t, s, "", api.ErrForm)
		}
		if t.Failed() {
			t.FailNow()
		}
	}
}

// P13.4: long keys of all kinds lead back, and so do texts that may be damaged, as long as they are texts of keys.
func TestBack(t *testing.T) {
	r := rand.New(rand.NewSource(13))
	all := slices.DeleteFunc(edges(), func(n rune) bool { return name(n) == "" })
	for range 2000 {
		keys, text := "", ""
		for range r.Intn(40) {
			n := all[r.Intn(len(all))]
			if r.Intn(3) == 0 {
				n = []rune("\x08\x09\x0d\x12\x15\x17\x1b<")[r.Intn(8)]
			}
			keys += string(n)
			text += name(n)
		}
		spelt(t, keys, text, api.OK)
		parsed(t, text, keys, api.OK)
		if text == "" {
			continue
		}
		b := []byte(text)
		b[r.Intn(len(b))] = byte(r.Intn(256))
		damaged := string(b)
		back, e := key.Parse(damaged)
		if e == api.OK {
			spelt(t, back, damaged, api.OK)
		} else if back != "" || (e == api.ErrText) == utf8.ValidString(damaged) || e != api.ErrText && e != api.ErrForm {
			t.Errorf("%q: %q, error %d", damaged, back, e)
		}
	}
}

// shared tells whether two texts lie in the same memory.
func shared(a, b string) bool {
	from, to := uintptr(unsafe.Pointer(unsafe.StringData(a))), uintptr(unsafe.Pointer(unsafe.StringData(b)))
	return from < to+uintptr(len(b)) && to < from+uintptr(len(a))
}

// Answers are new memory: no text lies in what was handed in, and no two calls tell one list.
func TestAnswersAreNew(t *testing.T) {
	s := strings.Clone("ab\u00e9\u20ac>")
	text, _ := key.Text(s)
	back, _ := key.Parse(s)
	for _, answer := range []string{text, back} {
		if answer != s || shared(answer, s) {
			t.Errorf("%q", answer)
		}
	}
	for _, k := range []string{"\u00e9", "\u20ac", "\U0001f600"} {
		k = strings.Clone(k)
		if name := key.Name(k); name != k || shared(name, k) {
			t.Errorf("%q", name)
		}
	}
	l, _ := key.Split(s)
	for _, k := range l {
		if shared(k, s) {
			t.Errorf("%q", k)
		}
	}
	again, _ := key.Split(s)
	for i := range l {
		l[i] = "x"
	}
	if strings.Join(again, "") != s {
		t.Errorf("%q", again)
	}
}
