package phrase_test

import (
	"maps"
	"math"
	"math/rand"
	"regexp"
	"slices"
	"strconv"
	"strings"
	"testing"
	"unsafe"

	"calamus/phrase"
)

// answer is what Parse tells.
type answer struct {
	c  phrase.Cmd
	is int
}

// told is Parse's answer.
func told(keys string, visual bool) answer {
	c, is := phrase.Parse(keys, visual)
	return answer{c, is}
}

// motions are the keys that point 2 names as Key, by hand.
func motions() []string {
	return strings.Fields("h l 0 ^ $ | j k G w b W e B E { } % n N ; , gg f F t T ' `")
}

// operators are the operators, by hand.
func operators() []string { return strings.Fields("d c y > < gu gU g~") }

// kinds are the kinds of things, by hand.
func kinds() []string { return strings.Fields("w W ( ) b [ ] { } B < > \" ' ` p") }

// signs are all signs below 127, some above, and the tab.
func signs() []string {
	l := []string{"\t", "\u0080", "\u00e9", "\u20ac", "\U0001f600", "\U0010ffff"}
	for n := rune(32); n < 127; n++ {
		l = append(l, string(n))
	}
	return l
}

// letters are a to z.
func letters() []string { return strings.Split("abcdefghijklmnopqrstuvwxyz", "") }

// all are the signs, and the keys that are none.
func all() []string {
	return append(signs(), "\x08", "\x0d", "\x12", "\x15", "\x17", "\x1b")
}

// wrong are texts that are no keys: bytes that are no valid text, and runes that are no keys.
func wrong() []string {
	l := []string{"\x80", "\xbf", "\xc3", "\xe2\x82", "\xf0\x9f\x98", "\xc0\x80", "\xc1\xa1", "\xed\xa0\x80", "\xf4\x90\x80\x80", "\xfe", "\xff", "\x7f"}
	for n := range rune(32) {
		if !slices.Contains([]rune{8, 9, 13, 18, 21, 23, 27}, n) {
			l = append(l, string(n))
		}
	}
	return l
}

// rules are the chapter's points 2 to 5: what keys without counts and register stand for, and what begins such.
type rules struct {
	cmds   map[string]phrase.Cmd
	begins map[string]bool
	visual bool
}

// put adds a command, and what begins it.
func (r rules) put(keys string, c phrase.Cmd) {
	r.cmds[keys] = c
	for at := range keys {
		r.begins[keys[:at]] = true
	}
}

// behind adds commands of a key, and of each of those behind it.
func (r rules) behind(op, k string, l []string) {
	for _, arg := range l {
		r.put(op+k+arg, phrase.Cmd{Op: op, Key: k, Arg: arg})
	}
}

// moves adds motions, behind an operator or none.
func (r rules) moves(op string) {
	for _, k := range motions() {
		switch k {
		case "f", "F", "t", "T":
			r.behind(op, k, signs())
		case "'", "`":
			r.behind(op, k, letters())
		default:
			r.put(op+k, phrase.Cmd{Op: op, Key: k})
		}
	}
}

// parts adds things, behind an operator or none.
func (r rules) parts(op string) {
	r.behind(op, "i", kinds())
	r.behind(op, "a", kinds())
}

// made tells the rules of normal mode, or of visual mode.
func made(visual bool) rules {
	r := rules{map[string]phrase.Cmd{}, map[string]bool{}, visual}
	r.moves("")
	if visual {
		r.parts("")
		for k, op := range map[string]string{"d": "d", "x": "d", "c": "c", "s": "c", "y": "y", ">": ">", "<": "<", "~": "g~", "u": "gu", "U": "gU", "gu": "gu", "gU": "gU", "g~": "g~"} {
			r.put(k, phrase.Cmd{Op: op})
		}
		for _, k := range strings.Fields("J o v V") {
			r.put(k, phrase.Cmd{Key: k})
		}
		return r
	}
	for _, op := range operators() {
		r.moves(op)
		r.parts(op)
		r.put(op+op[len(op)-1:], phrase.Cmd{Op: op, Key: "line"})
	}
	for _, k := range strings.Fields("p P J ~ u . i a I A o O v V : / ? \x12 g- g+") {
		r.put(k, phrase.Cmd{Key: k})
	}
	r.behind("", "r", signs())
	r.behind("", "m", letters())
	for k, c := range map[string][2]string{"x": {"d", "l"}, "X": {"d", "h"}, "D": {"d", "$"}, "C": {"c", "$"}, "s": {"c", "l"}, "S": {"c", "line"}, "Y": {"y", "line"}} {
		r.put(k, phrase.Cmd{Op: c[0], Key: c[1]})
	}
	return r
}

// both are the rules of both modes.
func both() []rules { return []rules{made(false), made(true)} }

// ahead is point 1, with all that follows it; inner is an operator, and a count behind it.
var (
	ahead = regexp.MustCompile(`^([1-9][0-9]*)?(?:"(?:([-"0-9a-zA-Z])([1-9][0-9]*)?|$))?((?s).*)$`)
	inner = regexp.MustCompile(`^([dcy><]|g[uU~])([1-9][0-9]*)((?s).*)$`)
)

// product is what counts come to.
func product(digits ...string) int {
	n := 0
	for _, d := range digits {
		if d == "" {
			continue
		}
		m, err := strconv.Atoi(d)
		if err != nil {
			m = 99
		}
		n = min(max(n, 1)*min(m, 99), 99)
	}
	return n
}

// expected is the answer by the rules, of what is keys.
func (r rules) expected(keys string) answer {
	parts := ahead.FindStringSubmatch(keys)
	rest, own := parts[4], ""
	if m := inner.FindStringSubmatch(rest); m != nil && !r.visual {
		rest, own = m[1]+m[3], m[2]
	}
	c, ok := r.cmds[rest]
	switch {
	case ok:
		c.Count = product(parts[1], parts[3], own)
		if parts[2] != "" {
			c.Reg = int(parts[2][0])
		}
		return answer{c, phrase.Done}
	case r.begins[rest]:
		return answer{is: phrase.More}
	}
	return answer{is: phrase.Bad}
}

// holds holds the answer against the rules, and tells what it is.
func (r rules) holds(t *testing.T, keys string) int {
	t.Helper()
	got := told(keys, r.visual)
	if want := r.expected(keys); got != want {
		t.Errorf("%q, visual %t: %+v, not %+v", keys, r.visual, got, want)
	}
	return got.is
}

// P26.1: commands by hand, with the chapter's example.
func TestByHand(t *testing.T) {
	for _, x := range []struct {
		keys   string
		visual bool
		c      phrase.Cmd
	}{
		{"2d3w", false, phrase.Cmd{Op: "d", Key: "w", Count: 6}},
		{`"ayy`, false, phrase.Cmd{Reg: 97, Op: "y", Key: "line"}},
		{"h", false, phrase.Cmd{Key: "h"}}, {"1h", false, phrase.Cmd{Key: "h", Count: 1}}, {"98h", false, phrase.Cmd{Key: "h", Count: 98}}, {"99h", false, phrase.Cmd{Key: "h", Count: 99}}, {"100h", false, phrase.Cmd{Key: "h", Count: 99}},
		{"10|", false, phrase.Cmd{Key: "|", Count: 10}}, {"5gg", false, phrase.Cmd{Key: "gg", Count: 5}}, {"100000000000000000000h", false, phrase.Cmd{Key: "h", Count: 99}},
		{"0", false, phrase.Cmd{Key: "0"}}, {"0", true, phrase.Cmd{Key: "0"}}, {`"a0`, false, phrase.Cmd{Reg: 97, Key: "0"}}, {"d0", false, phrase.Cmd{Op: "d", Key: "0"}}, {"2d0", false, phrase.Cmd{Op: "d", Key: "0", Count: 2}},
		{"f0", false, phrase.Cmd{Key: "f", Arg: "0"}}, {"3f3", false, phrase.Cmd{Key: "f", Arg: "3", Count: 3}}, {"f\"", false, phrase.Cmd{Key: "f", Arg: `"`}}, {"T ", true, phrase.Cmd{Key: "T", Arg: " "}}, {"dF\t", false, phrase.Cmd{Op: "d", Key: "F", Arg: "\t"}}, {"t\U0001f600", false, phrase.Cmd{Key: "t", Arg: "\U0001f600"}},
		{"'a", false, phrase.Cmd{Key: "'", Arg: "a"}}, {"`z", true, phrase.Cmd{Key: "`", Arg: "z"}}, {"d`a", false, phrase.Cmd{Op: "d", Key: "`", Arg: "a"}},
		{"d2d", false, phrase.Cmd{Op: "d", Key: "line", Count: 2}}, {"3gU4U", false, phrase.Cmd{Op: "gU", Key: "line", Count: 12}}, {"g~~", false, phrase.Cmd{Op: "g~", Key: "line"}}, {">>", false, phrase.Cmd{Op: ">", Key: "line"}}, {"9<9<", false, phrase.Cmd{Op: "<", Key: "line", Count: 81}},
		{"c2iw", false, phrase.Cmd{Op: "c", Key: "i", Arg: "w", Count: 2}}, {"da\"", false, phrase.Cmd{Op: "d", Key: "a", Arg: `"`}}, {"yi'", false, phrase.Cmd{Op: "y", Key: "i", Arg: "'"}}, {">ip", false, phrase.Cmd{Op: ">", Key: "i", Arg: "p"}},
		{"2\"b3d4w", false, phrase.Cmd{Reg: 98, Count: 24, Op: "d", Key: "w"}}, {"5\"b5d5w", false, phrase.Cmd{Reg: 98, Count: 99, Op: "d", Key: "w"}}, {"\"b2p", false, phrase.Cmd{Reg: 98, Count: 2, Key: "p"}}, {`""P`, false, phrase.Cmd{Reg: 34, Key: "P"}}, {`"-p`, false, phrase.Cmd{Reg: 45, Key: "p"}}, {`"0p`, false, phrase.Cmd{Reg: 48, Key: "p"}}, {`"12p`, false, phrase.Cmd{Reg: 49, Count: 2, Key: "p"}}, {`"Zyy`, false, phrase.Cmd{Reg: 90, Op: "y", Key: "line"}},
		{"i", false, phrase.Cmd{Key: "i"}}, {"3A", false, phrase.Cmd{Key: "A", Count: 3}}, {"\x12", false, phrase.Cmd{Key: "\x12"}}, {"4g+", false, phrase.Cmd{Key: "g+", Count: 4}}, {"r0", false, phrase.Cmd{Key: "r", Arg: "0"}}, {"3r\t", false, phrase.Cmd{Key: "r", Arg: "\t", Count: 3}}, {"ma", false, phrase.Cmd{Key: "m", Arg: "a"}},
		{"3x", false, phrase.Cmd{Op: "d", Key: "l", Count: 3}}, {"X", false, phrase.Cmd{Op: "d", Key: "h"}}, {"D", false, phrase.Cmd{Op: "d", Key: "$"}}, {"C", false, phrase.Cmd{Op: "c", Key: "$"}}, {"s", false, phrase.Cmd{Op: "c", Key: "l"}}, {"2S", false, phrase.Cmd{Op: "c", Key: "line", Count: 2}}, {"\"aY", false, phrase.Cmd{Reg: 97, Op: "y", Key: "line"}},
		{"d", true, phrase.Cmd{Op: "d"}}, {"\"ax", true, phrase.Cmd{Reg: 97, Op: "d"}}, {"s", true, phrase.Cmd{Op: "c"}}, {"~", true, phrase.Cmd{Op: "g~"}}, {"u", true, phrase.Cmd{Op: "gu"}}, {"g~", true, phrase.Cmd{Op: "g~"}}, {"2V", true, phrase.Cmd{Key: "V", Count: 2}}, {"i(", true, phrase.Cmd{Key: "i", Arg: "("}},
	} {
		if got := told(x.keys, x.visual); got != (answer{x.c, phrase.Done}) {
			t.Errorf("%q, visual %t: %+v, not %+v", x.keys, x.visual, got, x.c)
		}
	}
}

// P26.1: what begins a command, and what begins none, by hand.
func TestNoneByHand(t *testing.T) {
	for _, x := range []struct {
		more   bool
		visual bool
		l      []string
	}{
		{true, false, []string{"", "1", "99999", `"`, `2"`, `"a`, `"a2`, `3"a4`, "f", "2T", "'", "`", "g", "d", "2d", "d2", "2\"a3d4", "dg", "d2g", "df", "d'", "di", "d3a", "gu", "gu2", "g~i", "r", "m", ">", "<", "y"}},
		{true, true, []string{"", "1", `"`, `"a`, "f", "'", "g", "2g", "i", "a", "3i"}},
		{false, false, []string{"\x1b", "\r", "\t", "\x08", "\x15", "\x17", "00", "hh", " ", "!", "Q", "R", "U", "\u00e9", `"a"b`, `""""`, `"!`, `" `, `"` + "\t", `"\u00e9`, "\"\u00e9", "f\x1b", "f\r", "\x12\x12", "'A", "'1", "`{", "'\u00e9", "mA", "m`", "m{", "r\r", "gx", "g1", "g\x1b", "dx", "dy", "d\x1b", "du", "dgu", "dg~", "d\"a", "d2\"", "gugu", "gUgU", "g~g~", "guU", "gUu", "gu~", "d00", "d2x", "dr", "cw1", "dij", "di1", "di\x1b", "dI", "iw", "diww", "ip"}},
		{false, true, []string{"p", "P", "r", "m", ":", "/", "?", ".", "A", "I", "O", "X", "D", "C", "S", "Y", "\x12", "g-", "g+", "dd", "dw", "yy", "gug", "guu", "d2", "ix", "i2w", "\x1b", `"a"b`, "oo"}},
	} {
		want := answer{is: phrase.Bad}
		if x.more {
			want.is = phrase.More
		}
		for _, keys := range x.l {
			if got := told(keys, x.visual); got != want {
				t.Errorf("%q, visual %t: %+v, not %+v", keys, x.visual, got, want)
			}
		}
	}
}

// P26.1: the numbers of what keys are.
func TestNumbers(t *testing.T) {
	if phrase.More != 1 || phrase.Done != 2 || phrase.Bad != 3 {
		t.Error(phrase.More, phrase.Done, phrase.Bad)
	}
}

// P26.1, P26.3: all commands of both modes, without counts, with counts and registers at each place, and what begins each, and what is longer.
func TestAllCommands(t *testing.T) {
	names := []string{"", `"a`, `"Z`, `""`, `"-`, `"5`}
	for _, r := range both() {
		for keys, c := range r.cmds {
			for i, a := range []string{"", "1", "7", "10", "123"} {
				n := names[i]
				r.command(t, a+n, keys, c)
				if n != "" {
					r.command(t, n+a, keys, c)
					r.command(t, a+n+"3", keys, c)
				}
			}
			if got := told(keys, r.visual); got != (answer{c, phrase.Done}) {
				t.Errorf("%q, visual %t: %+v, not %+v", keys, r.visual, got, c)
			}
		}
	}
}

// command holds a command with what stands ahead of it, and, where it has an operator of normal mode, a count behind that.
func (r rules) command(t *testing.T, front, keys string, c phrase.Cmd) {
	t.Helper()
	var l []string
	// A nought behind digits is one of them.
	if keys != "0" || front == "" {
		l = append(l, front+keys)
	}
	if op := c.Op; op != "" && c.Key != "0" && strings.HasPrefix(keys, op) && !r.visual {
		l = append(l, front+op+"2"+keys[len(op):], front+op+"60"+keys[len(op):])
	}
	for _, s := range l {
		if r.holds(t, s) != phrase.Done {
			t.Errorf("%q, visual %t: no command", s, r.visual)
		}
		for at := range s {
			if got := told(s[:at], r.visual); got != (answer{is: phrase.More}) {
				t.Errorf("%q of %q, visual %t: %+v", s[:at], s, r.visual, got)
			}
		}
		for _, k := range []string{"w", "g", "0", "2", `"`, "a", "i", "\x1b", "\u00e9", "gg", "aw", "d", keys} {
			if got := told(s+k, r.visual); got != (answer{is: phrase.Bad}) {
				t.Errorf("%q behind %q, visual %t: %+v", k, s, r.visual, got)
			}
		}
	}
}

// P26.1, P26.3: all keys behind all that begins a command, some digits standing for all of them from the third key on.
func TestAllKeys(t *testing.T) {
	for _, r := range both() {
		r.walk(t, "", 4)
	}
}

// walk goes on with each key, as long as a command is begun, but for so many keys at most.
func (r rules) walk(t *testing.T, keys string, left int) {
	for _, k := range all() {
		if left < 3 && strings.Contains("3456789", k) {
			continue
		}
		switch r.holds(t, keys+k) {
		case phrase.More:
			if left > 1 {
				r.walk(t, keys+k, left-1)
			}
		default:
			if left > 2 {
				r.over(t, keys+k)
			}
		}
	}
}

// over holds that nothing follows keys that are a command, or can be none.
func (r rules) over(t *testing.T, keys string) {
	for _, k := range all() {
		if got := told(keys+k, r.visual); got != (answer{is: phrase.Bad}) {
			t.Errorf("%q behind %q, visual %t: %+v", k, keys, r.visual, got)
		}
	}
}

// P26.1: each byte as a register's name, and runes that are no byte; only those of layer 21 are names.
func TestRegisters(t *testing.T) {
	for n := rune(0); n < 0x300; n++ {
		is := n == '"' || n == '-' || n >= '0' && n <= '9' || n >= 'a' && n <= 'z' || n >= 'A' && n <= 'Z'
		for _, visual := range []bool{false, true} {
			want, begun := answer{is: phrase.Bad}, answer{is: phrase.Bad}
			if is {
				want, begun = answer{phrase.Cmd{Reg: int(n), Key: "w"}, phrase.Done}, answer{is: phrase.More}
			}
			s := `"` + string(n)
			if got := told(s+"w", visual); got != want {
				t.Errorf("%q: %+v, not %+v", s, got, want)
			}
			if got := told(s, visual); got != begun {
				t.Errorf("%q: %+v, not %+v", s, got, begun)
			}
		}
	}
}

// P26.1: each rune behind keys that ask for a sign or a tab, for a letter, for a kind of things.
func TestArgs(t *testing.T) {
	var l []rune
	for n := rune(32); n < 0x300; n++ {
		if n != 127 {
			l = append(l, n)
		}
	}
	l = append(l, 8, 9, 13, 18, 21, 23, 27, 0x7ff, 0x800, 0x2028, 0xd7ff, 0xe000, 0xfeff, 0xfffd, 0xffff, 0x10000, 0x10ffff)
	for _, n := range l {
		k := string(n)
		sign, letter, kind := n == 9 || n >= 32, n >= 'a' && n <= 'z', slices.Contains(kinds(), k)
		for keys, fits := range map[string]bool{"f": sign, "F": sign, "t": sign, "T": sign, "'": letter, "`": letter} {
			arg(t, false, "", keys, k, fits)
			arg(t, true, "", keys, k, fits)
			arg(t, false, "gU", keys, k, fits)
		}
		for keys, fits := range map[string]bool{"r": sign, "m": letter} {
			arg(t, false, "", keys, k, fits)
		}
		for _, keys := range []string{"i", "a"} {
			arg(t, true, "", keys, k, kind)
			arg(t, false, "d", keys, k, kind)
		}
	}
}

// arg holds whether a key fits behind others.
func arg(t *testing.T, visual bool, op, keys, k string, fits bool) {
	t.Helper()
	want := answer{is: phrase.Bad}
	if fits {
		want = answer{phrase.Cmd{Op: op, Key: keys, Arg: k}, phrase.Done}
	}
	if got := told(op+keys+k, visual); got != want {
		t.Errorf("%q, visual %t: %+v, not %+v", op+keys+k, visual, got, want)
	}
}

// P26.1: what is no keys is no command, and begins none, wherever the wrong bytes stand.
func TestWrong(t *testing.T) {
	for _, s := range wrong() {
		for _, visual := range []bool{false, true} {
			for _, keys := range []string{s, s + "w", "w" + s, "d" + s, "2" + s, `"` + s, "f" + s, "r" + s, "'" + s, "g" + s, "di" + s, "f" + s + "w", "d" + s + "w", "gg" + s, s + s} {
				if got := told(keys, visual); got != (answer{is: phrase.Bad}) {
					t.Errorf("%q, visual %t: %+v", keys, visual, got)
				}
			}
		}
	}
}

// P26.1: all counts to 120 at each place, and all pairs of some.
func TestCounts(t *testing.T) {
	for n := 1; n <= 120; n++ {
		s := strconv.Itoa(n)
		for _, keys := range []string{s + "w", `"a` + s + "w", "d" + s + "w", "gu" + s + "u", "c" + s + "ap"} {
			c, is := phrase.Parse(keys, false)
			if is != phrase.Done || c.Count != min(n, 99) {
				t.Errorf("%q: %+v %d", keys, c, is)
			}
		}
		for m := 1; m <= 120; m++ {
			keys := s + "d" + strconv.Itoa(m) + "w"
			c, is := phrase.Parse(keys, false)
			if is != phrase.Done || c.Count != min(n*m, 99) {
				t.Errorf("%q: %+v %d", keys, c, is)
			}
		}
	}
	for n := 1; n <= 12; n++ {
		for m := 1; m <= 12; m++ {
			for k := 1; k <= 12; k++ {
				keys := strconv.Itoa(n) + `"b` + strconv.Itoa(m) + "d" + strconv.Itoa(k) + "w"
				c, is := phrase.Parse(keys, false)
				if is != phrase.Done || c.Count != min(n*m*k, 99) || c.Reg != 'b' {
					t.Errorf("%q: %+v %d", keys, c, is)
				}
			}
		}
	}
}

// P26.2: the keys of motions, and no others: all texts of one and of two keys, and what is none.
func TestMotion(t *testing.T) {
	is := map[string]bool{}
	for _, k := range motions() {
		is[k] = true
	}
	l := append([]string{"", "line", "ggg", "fa", "'a", "i", "a", "gu", "g-", "iw", "\n", "gg ", " gg"}, motions()...)
	l = append(l, wrong()...)
	for _, a := range all() {
		l = append(l, a)
		for _, b := range all() {
			l = append(l, a+b)
		}
	}
	for _, k := range l {
		if got := phrase.Motion(k); got != is[k] {
			t.Errorf("%q: %t", k, got)
		}
	}
}

// P26.2: counts by hand, all small ones, and far ones.
func TestCount(t *testing.T) {
	for _, x := range [][3]int{
		{0, 0, 0}, {-1, -5, 0}, {1, 0, 1}, {0, 1, 1}, {3, -1, 3}, {-1, 3, 3}, {0, 99, 99}, {0, 100, 99}, {100, 0, 99}, {9, 11, 99}, {10, 10, 99}, {98, 1, 98}, {1, 1, 1}, {50, 2, 99}, {49, 2, 98},
		{math.MaxInt, math.MaxInt, 99}, {math.MaxInt, 2, 99}, {math.MinInt, 2, 2}, {math.MinInt, math.MinInt, 0}, {math.MinInt, math.MaxInt, 99}, {math.MaxInt, 0, 99}, {1 << 32, 1 << 32, 99}, {1 << 63 / 3, 6, 99},
	} {
		if got := phrase.Count(x[0], x[1]); got != x[2] {
			t.Errorf("%d, %d: %d, not %d", x[0], x[1], got, x[2])
		}
	}
	for a := -3; a <= 130; a++ {
		for b := -3; b <= 130; b++ {
			want := a * b
			switch {
			case a < 1 && b < 1:
				want = 0
			case a < 1:
				want = b
			case b < 1:
				want = a
			}
			if got := phrase.Count(a, b); got != min(want, 99) {
				t.Errorf("%d, %d: %d", a, b, got)
			}
		}
	}
}

// P26.1, P26.3: random keys, most of them such as commands have, held against the rules.
func TestSome(t *testing.T) {
	rnd := rand.New(rand.NewSource(26))
	often := strings.Split(`0123456789""abdcygguU~iw<>ftr'pjkm`, "")
	for _, r := range both() {
		for range 60000 {
			var b strings.Builder
			for range rnd.Intn(12) {
				if rnd.Intn(8) == 0 {
					b.WriteString(all()[rnd.Intn(len(all()))])
				} else {
					b.WriteString(often[rnd.Intn(len(often))])
				}
			}
			r.holds(t, b.String())
		}
	}
}

// P26.1: many keys are told as fast as few: digits without end begin a command, and have a count; what follows a command is wrong.
func TestLong(t *testing.T) {
	const n = 1 << 20
	for _, x := range []struct {
		keys string
		want answer
	}{
		{strings.Repeat("1", n), answer{is: phrase.More}},
		{strings.Repeat("9", n) + "w", answer{phrase.Cmd{Key: "w", Count: 99}, phrase.Done}},
		{"1" + strings.Repeat("0", n) + "d2" + strings.Repeat("0", n) + "w", answer{phrase.Cmd{Op: "d", Key: "w", Count: 99}, phrase.Done}},
		{strings.Repeat("w", n), answer{is: phrase.Bad}},
		{strings.Repeat("g", n), answer{is: phrase.Bad}},
		{strings.Repeat(`"`, n), answer{is: phrase.Bad}},
	} {
		for _, visual := range []bool{false, true} {
			if visual && x.want.c.Op != "" {
				x.want = answer{is: phrase.Bad}
			}
			if got := told(x.keys, visual); got != x.want {
				t.Errorf("%.5q: %+v, not %+v", x.keys, got, x.want)
			}
		}
	}
}

// shares tells whether two texts share memory.
func shares(a, b string) bool {
	if a == "" || b == "" {
		return false
	}
	x, y := uintptr(unsafe.Pointer(unsafe.StringData(a))), uintptr(unsafe.Pointer(unsafe.StringData(b)))
	return x < y+uintptr(len(b)) && y < x+uintptr(len(a))
}

// P26.1: what is answered is new memory.
func TestAnswersAreNew(t *testing.T) {
	for _, r := range both() {
		for k := range r.cmds {
			keys := strings.Clone(k)
			c, _ := phrase.Parse(keys, r.visual)
			for _, s := range []string{c.Op, c.Key, c.Arg} {
				if shares(s, keys) {
					t.Errorf("%q: %q is what was handed in", k, s)
				}
			}
		}
	}
}

// P26.1, P26.2: what is answered hangs on nothing but what is handed in.
func TestNothingIsKept(t *testing.T) {
	r := made(false)
	first := map[string]answer{}
	for k := range r.cmds {
		first[k] = told(k, false)
		told(k, true)
		told(k[:len(k)-1], false)
		told(`9"a9`+k, false)
	}
	for _, k := range slices.Sorted(maps.Keys(first)) {
		if got := told(k, false); got != first[k] {
			t.Errorf("%q: %+v, not %+v", k, got, first[k])
		}
	}
}
