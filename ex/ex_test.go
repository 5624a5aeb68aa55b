package ex_test

import (
	"fmt"
	"math"
	"math/rand"
	"regexp"
	"slices"
	"strings"
	"testing"
	"unicode/utf8"
	"unsafe"

	"calamus/api"
	"calamus/ex"
)

// answer is what Parse tells.
type answer struct {
	l ex.Line
	e api.Errno
}

// parsed is Parse's answer.
func parsed(s string) answer {
	l, e := ex.Parse(s)
	return answer{l, e}
}

// row is one of the chapter's table: what stands behind a word, as the groups Arg, or Pat, Rep and All.
type row struct {
	wide bool
	has  *regexp.Regexp
}

const (
	file = `[a-z][a-z0-9]{0,15}`
	num  = `0|[1-9][0-9]{0,5}`
)

// rows are the chapter's table.
func rows() map[string]row {
	alone := regexp.MustCompile(`^$`)
	maybe := regexp.MustCompile(`^(?: (?P<Arg>` + num + `))?$`)
	l := map[string]row{
		"w":       {false, regexp.MustCompile(`^(?: (?P<Arg>` + file + `))?$`)},
		"e":       {false, regexp.MustCompile(`^ (?P<Arg>` + file + `)$`)},
		"undo":    {false, regexp.MustCompile(`^ (?P<Arg>` + num + `)$`)},
		"s":       {true, regexp.MustCompile(`^/(?P<Pat>[^/]+)/(?P<Rep>[^/]*)/(?P<All>g?)$`)},
		"sync":    {false, alone},
		"recover": {false, alone},
		"earlier": {false, maybe},
		"later":   {false, maybe},
	}
	for _, name := range []string{"", "d", "y", ">", "<", "j"} {
		l[name] = row{true, alone}
	}
	return l
}

var (
	table = rows()
	ahead = regexp.MustCompile(`^(?:(%)|([.$]|[0-9]+)(?:(,)([.$]|[0-9]+)?)?)?((?s).*)$`)
	verb  = regexp.MustCompile(`^([a-z]+|[><])?((?s).*)$`)
	fits  = regexp.MustCompile(`^(?:` + num + `|[.$])$`)
)

// address tells what an address stands for, and whether it is one.
func address(s string) (int, bool) {
	switch {
	case s == ".":
		return ex.Here, true
	case s == "$":
		return ex.Last, true
	case s == "0" || !fits.MatchString(s):
		return 0, false
	}
	n := 0
	for _, r := range s {
		n = n*10 + int(r-'0')
	}
	return n, true
}

// told is what P27.2 asks for.
func told(s string) answer {
	if !utf8.ValidString(s) || strings.Contains(s, "\n") {
		return answer{e: api.ErrText}
	}
	var l ex.Line
	m := ahead.FindStringSubmatch(s)
	if m[1] != "" {
		l.From, l.To = 1, ex.Last
	}
	var ok bool
	if m[2] != "" {
		if l.From, ok = address(m[2]); !ok {
			return answer{e: api.ErrForm}
		}
	}
	if m[3] != "" {
		if l.To, ok = address(m[4]); !ok {
			return answer{e: api.ErrForm}
		}
	}
	v := verb.FindStringSubmatch(m[5])
	r, ok := table[v[1]]
	if !ok || v[1] == "" && v[2] != "" {
		return answer{e: api.ErrCommand}
	}
	if l.From != 0 && !r.wide {
		return answer{e: api.ErrForm}
	}
	l.Name = v[1]
	had := r.has.FindStringSubmatch(v[2])
	switch {
	case had == nil && (l.Name == "w" || l.Name == "e") && strings.HasPrefix(v[2], " "):
		return answer{e: api.ErrName}
	case had == nil:
		return answer{e: api.ErrForm}
	}
	for k, group := range r.has.SubexpNames() {
		switch group {
		case "Arg":
			l.Arg = had[k]
		case "Pat":
			l.Pat = had[k]
		case "Rep":
			l.Rep = had[k]
		case "All":
			l.All = had[k] == "g"
		}
	}
	return answer{l: l}
}

// text tells the text of a line that was parsed, as P27.3 asks for it.
func text(l ex.Line) string {
	sign := func(a int) string {
		switch a {
		case ex.Here:
			return "."
		case ex.Last:
			return "$"
		}
		return fmt.Sprint(a)
	}
	s := ""
	switch {
	case l.From == 1 && l.To == ex.Last:
		s = "%"
	case l.To != 0:
		s = sign(l.From) + "," + sign(l.To)
	case l.From != 0:
		s = sign(l.From)
	}
	s += l.Name
	if l.Arg != "" {
		s += " " + l.Arg
	}
	if l.Name == "s" {
		s += "/" + l.Pat + "/" + l.Rep + "/" + map[bool]string{true: "g"}[l.All]
	}
	return s
}

// holds holds Parse, and Text of what it tells, against the chapter.
func holds(t *testing.T, s string) {
	t.Helper()
	got, want := parsed(s), told(s)
	if got != want {
		t.Errorf("%q: %+v, not %+v", s, got, want)
		return
	}
	if got.e != api.OK {
		return
	}
	back, e := ex.Text(got.l)
	if back != text(got.l) || e != api.OK {
		t.Errorf("%+v: %q %d, not %q", got.l, back, int(e), text(got.l))
	}
	if back != s && strings.Replace(s, "1,$", "%", 1) != back {
		t.Errorf("%q leads to %q", s, back)
	}
	if again := parsed(back); again != got {
		t.Errorf("%q: %+v, not %+v", back, again, got)
	}
}

// each hands on all texts of up to n of some parts.
func each(n int, parts []string, do func(s string)) {
	var more func(s string, n int)
	more = func(s string, n int) {
		do(s)
		if n == 0 {
			return
		}
		for _, p := range parts {
			more(s+p, n-1)
		}
	}
	more("", n)
}

// broken are texts that are not valid.
func broken() []string {
	return []string{"\x80", "\xbf", "\xc3", "\xe2\x82", "\xf0\x9f\x98", "\xc0\x80", "\xc1\xa1", "\xed\xa0\x80", "\xf4\x90\x80\x80", "\xfe", "\xff"}
}

// P27.1: names by hand, all of up to two bytes, all lengths, and each byte at each place.
func TestName(t *testing.T) {
	for s, want := range map[string]bool{
		"": false, "a": true, "z": true, "f1": true, "a0z9": true, "abcdefghijklmnop": true, "abcdefghijklmnopq": false, "a123456789012345": true, "a1234567890123456": false,
		"1": false, "1a": false, "A": false, "aB": false, "a b": false, " a": false, "a ": false, "a.b": false, "a/b": false, "a_b": false, "a-b": false, "\u00e9": false, "a\u00e9": false, "a\n": false, "\na": false, "a\x00": false, "\u0661": false, "a\u0661": false, "a\xff": false, "\xffa": false,
	} {
		if got := ex.Name(s); got != want {
			t.Errorf("%q: %t", s, got)
		}
	}
	right := regexp.MustCompile(`^` + file + `$`)
	check := func(s string) {
		t.Helper()
		if got, want := ex.Name(s), right.MatchString(s); got != want {
			t.Errorf("%q: %t", s, got)
		}
	}
	for a := range 256 {
		check(string([]byte{byte(a)}))
		for b := range 256 {
			check(string([]byte{byte(a), byte(b)}))
		}
		for n := range 20 {
			s := []byte(strings.Repeat("a", n+1))
			s[n] = byte(a)
			check(string(s))
		}
	}
	for n := range 40 {
		check(strings.Repeat("z", n))
		check(strings.Repeat("0", n))
		check("a" + strings.Repeat("9", n))
		check(strings.Repeat("a", n) + "\u00e9")
	}
}

// P27.2: lines by hand.
func TestParse(t *testing.T) {
	for s, want := range map[string]ex.Line{
		"": {}, "1": {From: 1}, "999999": {From: 999999}, ".": {From: ex.Here}, "$": {From: ex.Last}, "%": {From: 1, To: ex.Last}, "1,$": {From: 1, To: ex.Last}, "3,2": {From: 3, To: 2}, "$,.": {From: ex.Last, To: ex.Here}, "1,999999": {From: 1, To: 999999},
		"w": {Name: "w"}, "w f1": {Name: "w", Arg: "f1"}, "w abcdefghijklmnop": {Name: "w", Arg: "abcdefghijklmnop"}, "e a": {Name: "e", Arg: "a"},
		"sync": {Name: "sync"}, "recover": {Name: "recover"}, "undo 0": {Name: "undo", Arg: "0"}, "undo 999999": {Name: "undo", Arg: "999999"}, "earlier": {Name: "earlier"}, "earlier 0": {Name: "earlier", Arg: "0"}, "later": {Name: "later"}, "later 10": {Name: "later", Arg: "10"},
		"d": {Name: "d"}, "%d": {From: 1, To: ex.Last, Name: "d"}, "2y": {From: 2, Name: "y"}, ".,3>": {From: ex.Here, To: 3, Name: ">"}, "$<": {From: ex.Last, Name: "<"}, "1,2j": {From: 1, To: 2, Name: "j"},
		"s/a/b/": {Name: "s", Pat: "a", Rep: "b"}, "s/a//": {Name: "s", Pat: "a"}, "s/a//g": {Name: "s", Pat: "a", All: true}, "2,$s/a/b/g": {From: 2, To: ex.Last, Name: "s", Pat: "a", Rep: "b", All: true}, "%s/ /\t/": {From: 1, To: ex.Last, Name: "s", Pat: " ", Rep: "\t"}, "s/g/g/g": {Name: "s", Pat: "g", Rep: "g", All: true}, `s/\/\/`: {Name: "s", Pat: `\`, Rep: `\`}, "s/\u20ac/\U0001f600/": {Name: "s", Pat: "\u20ac", Rep: "\U0001f600"}, "s/\x00/\r/": {Name: "s", Pat: "\x00", Rep: "\r"},
	} {
		if got := parsed(s); got != (answer{l: want}) {
			t.Errorf("%q: %+v, not %+v", s, got, want)
		}
	}
}

// P27.2: errors by hand, and of several the one that is named first.
func TestErrors(t *testing.T) {
	for e, l := range map[api.Errno][]string{
		api.ErrText:    {"\n", "d\n", "\nd", "0\n", "q\n", "1w A\n", "s/a\n/b/", "s/a/\n/", "0\xff", "\xff", "q\xff", "w \xff", "s/\xff/a/", "d\xc3", "\xed\xa0\x80"},
		api.ErrForm:    {"0", "00", "01", "0d", "1000000", "9999999d", "99999999999999999999d", "1,", "1,,2", "1,x", "1, 2", "1,0", "1,02d", "1,1000000", "1,%", ".,%d", "$,", "$,-1", ".,q", "0q", "1,q", "0w A", "1,\u00e9", "1,\u0661", "1w", "1,2w a", "%e a", ".sync", "$recover", "1undo 1", "1earlier", "%later 2", "1w A", "%e", "1e ", "e", "w/a", "w\ta", "w1", "eA", "w\u00e9", "w!", "sync ", "sync a", "recover 1", "undo", "undo ", "undo  1", "undo 01", "undo -1", "undo +1", "undo a", "undo 1000000", "undo 1 ", "undo1", "earlier ", "earlier x", "earlier 00", "later 1000000", "later.", "d ", "d a", "dA", "d1", "y/", "j,", ">>", "<<", "><", "> ", ">d", "<1", "s", "s ", "s a b", "s/", "s//", "s///", "s//b/", "s//b/g", "s/a", "s/a/", "s/a/b", "s/a/bg", "s/a/b/gg", "s/a/b/G", "s/a/b/ g", "s/a/b/g ", "s/a/b/c/", "s/a/b/g/", "s/a/b//", "s.a.b.", "s1/a/b/", "s /a/b/", "1d,2", "d1,2"},
		api.ErrCommand: {"q", "x", "dd", "ww", "wq", "ed", "syn", "syncs", "recove", "und", "undos", "late", "sub/a/b/", "sa", "yj", " ", " d", "W", "D", "Sync", "-", "-1", "+", "!", "/", "/a/", "?", "\t", "\u00e9", "\u0661", "\x00", ",", ",1", ",1d", "1 ", "1 d", "1D", "1dd", "1q A", "1.", ".1", "..", "$$", ".$", "%%", "%1", "%,1", "%,x", "%,1d", "1%", "1,2,3", "1,2,x", "1,2,", "1,2%", ".,.,.", "1-", "1\u00e9", "1,2 d", "%q", "%\u00e9"},
		api.ErrName:    {"w ", "e ", "w  ", "e  a", "w A", "e 1", "w a b", "w a ", "e a/b", "w abcdefghijklmnopq", "e \u00e9", "w a\u00e9", "w a.b", "e -", "w /"},
	} {
		for _, s := range l {
			if got := parsed(s); got != (answer{e: e}) {
				t.Errorf("%q: %+v, not %d", s, got, int(e))
			}
		}
	}
}

// P27.2, P27.3, P27.5: all short texts of some runes, and of bytes that are none.
func TestShort(t *testing.T) {
	each(4, strings.Split("01.$%,wesd>/g \u00e9\nA", ""), func(s string) { holds(t, s) })
	for _, b := range broken() {
		each(2, []string{b, "1", "d", "w", " ", "/", "0", ","}, func(s string) { holds(t, s) })
	}
	for n := range rune(0x250) {
		for _, s := range []string{"", "1", "1,", "d", "w", "w ", "e a", "undo ", "undo 1", ">", "s/", "s/a/", "s/a/b/", "%", "a"} {
			holds(t, s+string(n))
			holds(t, string(n)+s)
		}
	}
}

// parts are what lines are made of, and what is beside it.
func parts() []string {
	return strings.Split("0|01|1|7|999999|1000000|.|$|%|,|w|e|sync|recover|undo|earlier|later|d|y|>|<|j|s|/|/a/|//|g| |f1|A|abcdefghijklmnop|\u00e9", "|")
}

// P27.2, P27.3, P27.5: all short rows of parts of lines.
func TestParts(t *testing.T) {
	each(3, parts(), func(s string) { holds(t, s) })
}

// heads are texts of addresses, right and wrong ones.
func heads() []string {
	l := []string{"", "%", "0", "%,", ","}
	some := []string{"", ".", "$", "%", "0", "1", "2", "10", "007", "999999", "1000000"}
	for _, a := range some {
		l = append(l, a)
		for _, b := range some {
			l = append(l, a+","+b)
		}
	}
	return l
}

// tails are texts behind a word, right and wrong ones.
func tails() []string {
	return []string{"", " ", " a", " f1", " A", " a b", " abcdefghijklmnop", " abcdefghijklmnopq", " 0", " 1", " 01", " 999999", " 1000000", "/", "//", "///", "/a/", "/a//", "/a/b/", "/a/b/g", "/a/b/gg", "/a/b/c/", "//b/", "/\u00e9/ /g", "g", "1", ">", "\n", "\xff"}
}

// P27.2, P27.3, P27.5: all words, and some that are none, with all addresses and all that may stand behind one.
func TestRows(t *testing.T) {
	names := []string{"q", "dd", "W", " d", "\u00e9", "\xff"}
	for name := range table {
		names = append(names, name)
	}
	for _, h := range heads() {
		for _, name := range names {
			for _, tail := range tails() {
				holds(t, h+name+tail)
			}
		}
	}
}

// P27.2, P27.5: random texts, most of them such as lines are.
func TestRandom(t *testing.T) {
	rnd := rand.New(rand.NewSource(27))
	l := append(parts(), "b", "/g", "/b/", " 3", " x")
	for range 100000 {
		var b strings.Builder
		b.WriteString(heads()[rnd.Intn(len(heads()))])
		for range rnd.Intn(6) {
			b.WriteString(l[rnd.Intn(len(l))])
		}
		holds(t, b.String())
	}
}

// P27.2: all numbers of up to three digits, and those beside the bounds, as addresses and behind words.
func TestNumbers(t *testing.T) {
	l := []int{9999, 10000, 99999, 100000, 123456, 654321, 999998, 999999}
	for n := range 1000 {
		l = append(l, n)
	}
	for _, n := range l {
		s := fmt.Sprint(n)
		want := answer{l: ex.Line{From: n}}
		if n == 0 {
			want = answer{e: api.ErrForm}
		}
		if got := parsed(s); got != want {
			t.Errorf("%q: %+v", s, got)
		}
		for _, name := range []string{"undo", "earlier", "later"} {
			if got := parsed(name + " " + s); got != (answer{l: ex.Line{Name: name, Arg: s}}) {
				t.Errorf("%s %s: %+v", name, s, got)
			}
			if got := parsed(name + " 0" + s); got != (answer{e: api.ErrForm}) {
				t.Errorf("%s 0%s: %+v", name, s, got)
			}
		}
		if n > 0 {
			holds(t, s+","+s+"d")
			holds(t, "0"+s)
		}
	}
	for _, s := range []string{"1000000", "1000001", "9999999", "2147483647", "4294967297", "18446744073709551617", strings.Repeat("1", 5000)} {
		for _, whole := range []string{s, "1," + s, "undo " + s, "later " + s, s + "q"} {
			if got := parsed(whole); got != (answer{e: api.ErrForm}) {
				t.Errorf("%q: %+v", whole, got)
			}
		}
	}
}

// P27.3: lines by hand, and such as there are no texts of.
func TestText(t *testing.T) {
	for s, l := range map[string]ex.Line{
		"": {}, "%": {From: 1, To: ex.Last}, "1": {From: 1}, "1,1": {From: 1, To: 1}, "$": {From: ex.Last}, ".,$": {From: ex.Here, To: ex.Last}, "2,$": {From: 2, To: ex.Last}, "$,1": {From: ex.Last, To: 1}, "999999,.j": {From: 999999, To: ex.Here, Name: "j"},
		"%s/a b/\u00e9/g": {From: 1, To: ex.Last, Name: "s", Pat: "a b", Rep: "\u00e9", All: true}, "w": {Name: "w"}, "e a1": {Name: "e", Arg: "a1"}, "undo 0": {Name: "undo", Arg: "0"}, "later": {Name: "later"},
	} {
		if got, e := ex.Text(l); got != s || e != api.OK {
			t.Errorf("%+v: %q %d", l, got, int(e))
		}
	}
	for _, l := range []ex.Line{
		{To: 1}, {To: ex.Last}, {To: ex.Last, Name: "d"}, {From: -3}, {From: 1000000}, {From: 1, To: -3}, {From: 1, To: 1000000}, {From: math.MinInt}, {From: math.MaxInt}, {From: 1, To: math.MinInt}, {From: 1<<32 + 1},
		{Name: "q"}, {Name: "dd"}, {Name: "D"}, {Name: " d"}, {Name: "d "}, {Name: "1d"}, {Name: "%d"}, {From: 1, Name: "0d"}, {From: 1, Name: ",2d"}, {Name: "w a"}, {Name: "e a"}, {Name: "s/a/b/"}, {Name: "s/a/b/g"}, {Name: "\n"}, {Name: "\xff"}, {Name: "."}, {Name: "1"},
		{Arg: "a"}, {Arg: "1"}, {Pat: "a"}, {Rep: "a"}, {All: true}, {Name: "w", Arg: " a"}, {Name: "w", Arg: "a "}, {Name: "w", Arg: "abcdefghijklmnopq"}, {Name: "w", Arg: "1"}, {Name: "w", Pat: "a"}, {Name: "w", All: true}, {Name: "w", Rep: "a"}, {Name: "e"}, {From: 1, Name: "e", Arg: "a"}, {Name: "sync", Arg: "a"}, {From: ex.Here, Name: "recover"}, {Name: "undo"}, {Name: "undo", Arg: "00"}, {Name: "undo", Arg: "1000000"}, {Name: "earlier", Arg: "-1"}, {From: 1, Name: "later", Arg: "1"},
		{Name: "d", Rep: "a"}, {Name: "d", Arg: "1"}, {Name: ">", Arg: ">"}, {Name: "s", Rep: "a"}, {Name: "s", All: true}, {Name: "s", Arg: "a", Pat: "a"}, {Name: "s", Arg: "/a/b/"}, {Name: "s", Pat: "/"}, {Name: "s", Pat: "a", Rep: "/"}, {Name: "s", Pat: "a/b"}, {Name: "s", Pat: "a", Rep: "b/g"}, {Name: "s", Pat: "a", Rep: "\n"}, {Name: "s", Pat: "\n"}, {Name: "s", Pat: "\xff"}, {Name: "s", Pat: "a", Rep: "\xc3"},
	} {
		if got, e := ex.Text(l); got != "" || e != api.ErrForm {
			t.Errorf("%+v: %q %d", l, got, int(e))
		}
	}
}

// P27.3, P27.5: lines of all kinds of fields, one with the other: there is a text of one, if its text is parsed as it.
func TestFields(t *testing.T) {
	places := []int{math.MinInt, -3, ex.Last, ex.Here, 0, 1, 2, 999999, 1000000, math.MaxInt}
	names := []string{"q", "g", "W", "\n", "w a", "s/a/b/"}
	for name := range table {
		names = append(names, name)
	}
	all := 0
	for _, from := range places {
		for _, to := range places {
			for _, name := range names {
				for _, arg := range []string{"", "a", "A", "0", "7", "07", "a\xff"} {
					for _, pat := range []string{"", "a", "/", "\u00e9", "\n"} {
						for _, rep := range []string{"", "b", "/", "\xff"} {
							for _, g := range []bool{false, true} {
								all += fielded(t, ex.Line{From: from, To: to, Name: name, Arg: arg, Pat: pat, Rep: rep, All: g})
							}
						}
					}
				}
			}
		}
	}
	// Addresses are none, 5 alone, or 25 pairs; of the 7 words that may have them all but s have one form, s 2 patterns, 2 texts, and all or not.
	// The 7 others have none: w, e 1 name, w none, too; undo, earlier, later 2 numbers, the last two none, too; sync and recover none.
	if want := 31*(6+2*2*2) + 2 + 1 + 2 + 3 + 3 + 1 + 1; all != want {
		t.Errorf("%d lines have a text, not %d", all, want)
	}
}

// fielded holds Text of a line against the chapter, and tells whether there is one, as a number.
func fielded(t *testing.T, l ex.Line) int {
	t.Helper()
	want, e := text(l), api.OK
	if told(want) != (answer{l: l}) {
		want, e = "", api.ErrForm
	}
	if got, err := ex.Text(l); got != want || err != e {
		t.Errorf("%+v: %q %d, not %q %d", l, got, int(err), want, int(e))
	}
	if e != api.OK {
		return 0
	}
	if got := parsed(want); got != (answer{l: l}) {
		t.Errorf("%q: %+v, not %+v", want, got, l)
	}
	return 1
}

// P27.4: by hand, far numbers with it; what else a line has is not asked for.
func TestLines(t *testing.T) {
	for _, x := range []struct {
		l           ex.Line
		here, count int
		a, b        int
		e           api.Errno
	}{
		{ex.Line{}, 0, 1, 0, 0, api.OK},
		{ex.Line{From: 1, To: ex.Last}, 2, 4, 0, 3, api.OK},
		{ex.Line{From: 999999}, 0, 999999, 999998, 999998, api.OK},
		{ex.Line{From: ex.Here, To: ex.Last}, 7, math.MaxInt, 7, math.MaxInt - 1, api.OK},
		{ex.Line{From: ex.Last, To: ex.Here}, 3, 4, 3, 3, api.OK},
		{ex.Line{From: ex.Last, To: ex.Here}, 2, 4, 0, 0, api.ErrRange},
		{ex.Line{From: ex.Last, To: 4}, 0, 4, 3, 3, api.OK},
		{ex.Line{From: 5}, 0, 4, 0, 0, api.ErrRange},
		{ex.Line{From: 5, To: 5}, 0, 4, 0, 0, api.ErrRange},
		{ex.Line{From: 5, To: 1}, 0, 4, 0, 0, api.ErrRange},
		{ex.Line{From: 1, To: 5}, 0, 4, 0, 0, api.ErrRange},
		{ex.Line{From: 999999, To: 1000000}, 0, 4, 0, 0, api.ErrArg},
		{ex.Line{From: 999999, To: -3}, 0, 4, 0, 0, api.ErrArg},
		{ex.Line{To: 5}, 0, 4, 0, 0, api.ErrArg},
		{ex.Line{To: ex.Here}, 0, 4, 0, 0, api.ErrArg},
		{ex.Line{From: 5}, 4, 4, 0, 0, api.ErrArg},
		{ex.Line{From: 5}, -1, 4, 0, 0, api.ErrArg},
		{ex.Line{}, 0, 0, 0, 0, api.ErrArg},
		{ex.Line{}, 0, -1, 0, 0, api.ErrArg},
		{ex.Line{}, -2, -1, 0, 0, api.ErrArg},
		{ex.Line{}, math.MinInt, math.MaxInt, 0, 0, api.ErrArg},
		{ex.Line{}, math.MaxInt, math.MaxInt, 0, 0, api.ErrArg},
		{ex.Line{}, math.MaxInt - 1, math.MaxInt, math.MaxInt - 1, math.MaxInt - 1, api.OK},
		{ex.Line{From: math.MinInt}, 0, 4, 0, 0, api.ErrArg},
		{ex.Line{From: math.MaxInt}, 0, math.MaxInt, 0, 0, api.ErrArg},
		{ex.Line{From: 1, To: math.MaxInt}, 0, math.MaxInt, 0, 0, api.ErrArg},
		{ex.Line{From: 1000000}, 0, 2000000, 0, 0, api.ErrArg},
		{ex.Line{From: 2, To: 3, Name: "?", Arg: "\xff", Rep: "/", All: true}, 0, 4, 1, 2, api.OK},
	} {
		if a, b, e := ex.Lines(x.l, x.here, x.count); a != x.a || b != x.b || e != x.e {
			t.Errorf("%+v at %d of %d: %d %d %d", x.l, x.here, x.count, a, b, int(e))
		}
	}
}

// P27.4: all small numbers, held against lists of lines.
func TestSmallLines(t *testing.T) {
	for count := -1; count <= 6; count++ {
		numbers := []int{}
		for k := range max(count, 0) {
			numbers = append(numbers, k)
		}
		for here := -2; here <= 7; here++ {
			for from := -4; from <= 8; from++ {
				for to := -4; to <= 8; to++ {
					l := ex.Line{From: from, To: to}
					wantA, wantB, want := meant(numbers, here, from, to)
					if a, b, e := ex.Lines(l, here, count); a != wantA || b != wantB || e != want {
						t.Errorf("%d,%d at %d of %d: %d %d %d, not %d %d %d", from, to, here, count, a, b, int(e), wantA, wantB, int(want))
					}
				}
			}
		}
	}
}

// meant is what P27.4 asks for, where addresses are at most 999999.
func meant(numbers []int, here, from, to int) (int, int, api.Errno) {
	if !slices.Contains(numbers, here) || from < -2 || to < -2 || from == 0 && to != 0 {
		return 0, 0, api.ErrArg
	}
	is := map[int]int{0: here, ex.Here: here, ex.Last: numbers[len(numbers)-1]}
	for _, k := range numbers {
		is[k+1] = k
	}
	if to == 0 {
		to = from
	}
	a, first := is[from]
	b, second := is[to]
	if !first || !second || a > b {
		return 0, 0, api.ErrRange
	}
	return a, b, api.OK
}

// P27.2, P27.3: long texts have no bound of their own, and are told as fast as they are long.
func TestLong(t *testing.T) {
	const n = 1 << 20
	long := strings.Repeat("a ", n)
	l := ex.Line{From: 3, Name: "s", Pat: long, Rep: long, All: true}
	s := "3s/" + long + "/" + long + "/g"
	if got := parsed(s); got != (answer{l: l}) {
		t.Errorf("a long line: %d", int(got.e))
	}
	if got, e := ex.Text(l); got != s || e != api.OK {
		t.Errorf("a long text: %d", int(e))
	}
	for s, e := range map[string]api.Errno{
		strings.Repeat("1", n): api.ErrForm, strings.Repeat("w", n): api.ErrCommand, "w " + strings.Repeat("w", n): api.ErrName, "s" + strings.Repeat("/", n): api.ErrForm, strings.Repeat(">", n): api.ErrForm, strings.Repeat(",", n): api.ErrCommand, strings.Repeat("%", n): api.ErrCommand, strings.Repeat("\n", n): api.ErrText, "undo " + strings.Repeat("1", n): api.ErrForm,
	} {
		if got := parsed(s); got != (answer{e: e}) {
			t.Errorf("%.9q: %d, not %d", s, int(got.e), int(e))
		}
	}
}

// shares tells whether two texts share memory.
func shares(a, b string) bool {
	if a == "" || b == "" {
		return false
	}
	x, y := uintptr(unsafe.Pointer(unsafe.StringData(a))), uintptr(unsafe.Pointer(unsafe.StringData(b)))
	return x < y+uintptr(len(b)) && y < x+uintptr(len(a))
}

// P27.2, P27.3: what is answered is new memory.
func TestAnswersAreNew(t *testing.T) {
	for _, h := range heads() {
		for name := range table {
			for _, tail := range tails() {
				s := strings.Clone(h + name + tail)
				l, _ := ex.Parse(s)
				back, _ := ex.Text(l)
				fields := []string{l.Name, l.Arg, l.Pat, l.Rep}
				for k, f := range fields {
					if shares(f, s) || shares(back, f) {
						t.Errorf("%q: %q is what was handed in", s, f)
					}
					for _, other := range fields[:k] {
						if shares(f, other) {
							t.Errorf("%q: %q is of another field", s, f)
						}
					}
				}
			}
		}
	}
	for name := range table {
		mine := strings.Clone(name)
		if s, _ := ex.Text(ex.Line{Name: mine}); shares(s, mine) {
			t.Errorf("%q is what was handed in", s)
		}
	}
}

// P27.1 to P27.4: what is answered hangs on nothing but what is handed in.
func TestNothingIsKept(t *testing.T) {
	first := map[string]answer{}
	for _, h := range heads() {
		for name := range table {
			first[h+name] = parsed(h + name)
			ex.Name(name)
			ex.Parse("%s/a/b/g")
			ex.Text(first[h+name].l)
			ex.Lines(first[h+name].l, 1, 3)
		}
	}
	for s, want := range first {
		if got := parsed(s); got != want {
			t.Errorf("%q: %+v, not %+v", s, got, want)
		}
	}
}
