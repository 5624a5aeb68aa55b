package state_test

import (
	"encoding/binary"
	"fmt"
	"math"
	"math/rand"
	"reflect"
	"regexp"
	"slices"
	"strings"
	"testing"
	"time"
	"unicode/utf8"
	"unsafe"

	"calamus/api"
	"calamus/code"
	"calamus/state"
	"calamus/tree"
)

// root is the tree of the root alone, by hand.
func root() api.Tree { return api.Tree{Nodes: []api.Node{{Up: -1, Next: -1}}} }

// plain is a state of a text in a mode, in which all else is zero; in Insert its base is the same text.
func plain(text string, mode int) api.State {
	s := api.State{Text: text, Mode: mode, Tree: root()}
	if mode == api.Insert {
		s.In.Base = text
	}
	return s
}

// branchy is a tree of three changes of "abé", the text at its Cur, and the texts of its four nodes.
func branchy() (api.Tree, []string) {
	return api.Tree{
		Nodes: []api.Node{
			{Up: -1, Next: 2},
			{Up: 0, Next: 3, Before: 0, After: 1, Change: api.Change{At: 1, Old: "b", New: ""}},
			{Up: 0, Next: -1, Before: 4, After: 0, Change: api.Change{At: 0, Old: "", New: "x\n"}},
			{Up: 1, Next: -1, Before: 1, After: 3, Change: api.Change{At: 1, Old: "é", New: "éé"}},
		},
		Cur: 1,
	}, []string{"abé", "aé", "x\nabé", "aéé"}
}

// deep is a tree of n nodes of the text "a", each of which does nothing.
func deep(n int) api.Tree {
	t := root()
	for k := 1; k < n; k++ {
		t.Nodes[k-1].Next = k
		t.Nodes = append(t.Nodes, api.Node{Up: k - 1, Next: -1})
	}
	t.Cur = n - 1
	return t
}

// full is a state in which nothing is zero that need not be, of each mode.
func full(mode int) api.State {
	t, texts := branchy()
	s := api.State{
		Text: texts[1], At: 1, Want: 7, Mode: mode,
		Cmd: "v\x1b2", Dot: "dé\t", Pattern: "p\té", Back: true,
		Find: api.Find{Kind: 'T', Rune: "é"}, Name: "f1", Half: "\xe2\x82", Status: api.ErrLoose,
		Regs:  []api.Reg{{Name: '"', Lines: true, Text: "q\nr"}, {Name: '-', Text: "é"}, {Name: '0'}, {Name: 'z', Text: "z"}},
		Marks: []api.Mark{{Name: 'a', At: 3}, {Name: 'c', At: 2}, {Name: 'z'}},
		Tree:  t,
	}
	switch mode {
	case api.Normal:
		s.Keys = `"a2d3g`
	case api.Insert:
		s.Keys, s.Text, s.At = "\x12", "azzé\n", 3
		s.In = api.Entry{From: 1, Count: 99, Before: 3, Base: texts[1]}
	case api.Visual, api.Lines:
		s.Keys, s.Anchor = "3g", 1
	default:
		s.Line = "s/é/~/"
	}
	return s
}

// modes are all modes.
func modes() []int { return []int{1, 2, 3, 4, 5, 6, 7} }

// many are states of all kinds that may be.
func many() []api.State {
	var l []api.State
	for _, m := range modes() {
		l = append(l, full(m), plain("", m), plain("a\n\nb", m))
	}
	long := full(api.Visual)
	long.Long, long.Cmd, long.Keys = true, "", ""
	return append(l, long)
}

// P29.1: New tells the state of a text.
func TestNew(t *testing.T) {
	for _, text := range []string{"", "a", "\n", "\n\na", "ab\nc", "é", "\x00", "€\n", strings.Repeat("a", api.MaxText), strings.Repeat("é", api.MaxText/2)} {
		want := api.State{Text: text, At: 0, Mode: 1, Tree: root()}
		if s, e := state.New(text); e != api.OK || !reflect.DeepEqual(s, want) {
			t.Errorf("New(%.20q) = %v, %d", text, s, int(e))
		}
	}
	for text, want := range map[string]api.Errno{
		"\xff":                             api.ErrText,
		"a\xc3":                            api.ErrText,
		"\x80":                             api.ErrText,
		"\xed\xa0\x80":                     api.ErrText,
		strings.Repeat("a", 4097):          api.ErrRoom,
		strings.Repeat("é", 2049):          api.ErrRoom,
		strings.Repeat("a", 4097) + "\xff": api.ErrText,
		strings.Repeat("a", 1<<20):         api.ErrRoom,
	} {
		if s, e := state.New(text); e != want || !reflect.DeepEqual(s, api.State{}) {
			t.Errorf("New(%.20q) = %v, %d, want %d", text, s, int(e), int(want))
		}
	}
}

// P29.1: a state is idle in Normal, without Keys and Half.
func TestIdle(t *testing.T) {
	for mode := -1; mode <= 9; mode++ {
		for _, keys := range []string{"", "2", "\x12", "w"} {
			for _, half := range []string{"", "\xc3", "\xf0\x9f\x98"} {
				s := full(max(min(mode, 7), 1))
				s.Mode, s.Keys, s.Half = mode, keys, half
				if got, want := state.Idle(s), mode == 1 && keys+half == ""; got != want {
					t.Errorf("mode %d, keys %q, half %q: %v", mode, keys, half, got)
				}
			}
		}
	}
	// Nothing else counts.
	s := full(api.Normal)
	s.Keys, s.Half = "", ""
	if !state.Idle(s) {
		t.Error("what is not asked for counts")
	}
}

// trial is one thing that is changed in a state, and whether that may be then.
type trial struct {
	name string
	do   func(s *api.State)
	want bool
}

// texts are trials of a field that is a text: those that may be, and those that may not.
func texts(name string, of func(s *api.State) *string, good, bad []string) []trial {
	var l []trial
	for _, v := range good {
		l = append(l, trial{name + " " + fmt.Sprintf("%.20q", v), func(s *api.State) { *of(s) = v }, true})
	}
	for _, v := range bad {
		l = append(l, trial{name + " " + fmt.Sprintf("%.20q", v), func(s *api.State) { *of(s) = v }, false})
	}
	return l
}

// nums are trials of a field that is a number, which may be from low to high, but for some.
func nums(name string, of func(s *api.State) *int, low, high int, but ...int) []trial {
	var l []trial
	for _, v := range []int{math.MinInt, -1 << 32, -2, -1, 0, 1, 2, 3, 4, 5, 6, 7, 8, 9, 17, 18, 19, 20, 98, 99, 100, api.MaxWant - 1, api.MaxWant, api.MaxWant + 1, api.MaxNum, 1 << 32, 1<<32 + 1, math.MaxInt} {
		l = append(l, trial{fmt.Sprint(name, " ", v), func(s *api.State) { *of(s) = v }, low <= v && v <= high && !slices.Contains(but, v)})
	}
	return l
}

// long is a text n times.
func long(s string, n int) string { return strings.Repeat(s, n) }

// free are trials of what is asked for alike in all modes, of a full state.
func free() []trial {
	var l []trial
	l = append(l, nums("want", func(s *api.State) *int { return &s.Want }, 0, api.MaxWant)...)
	for v, ok := range map[api.Errno]bool{-1: false, 0: true, 1: true, 15: true, 18: true, 19: false, 1 << 40: false, math.MinInt: false} {
		l = append(l, trial{fmt.Sprint("status ", int(v)), func(s *api.State) { s.Status = v }, ok})
	}
	keys := []string{"", "a", "\x08\x09\x0d\x12\x15\x17\x1b", " ~", "é€\U0001f600", "\u0080"}
	none := []string{"\x00", "\n", "\x7f", "a\x0b", "\xff", "a\xc3", "\xed\xa0\x80"}
	l = append(l, texts("cmd", func(s *api.State) *string { return &s.Cmd }, append(keys, long("a", 1024), long("é", 512)), append(none, long("a", 1025), long("é", 512)+"a"))...)
	l = append(l, texts("dot", func(s *api.State) *string { return &s.Dot }, append(keys, long("a", 1024), long("é", 512)), append(none, long("a", 1025), long("é", 512)+"a"))...)
	l = append(l, texts("pattern", func(s *api.State) *string { return &s.Pattern },
		[]string{"", "a", "\x00\x07\x7f", "é", "/", long("a", 80), long("é", 40)},
		[]string{"\n", "a\nb", "\xff", "\xc3", long("a", 81), long("é", 40) + "a"})...)
	l = append(l, texts("name", func(s *api.State) *string { return &s.Name },
		[]string{"", "a", "z09", long("a", 16)},
		[]string{"A", "1a", "a b", ".chk", "a.b", "é", "aé", "a\n", "\xff", long("a", 17)})...)
	l = append(l, texts("half", func(s *api.State) *string { return &s.Half },
		[]string{"", "\xc2", "\xdf", "\xe0", "\xe0\xa0", "\xed\x9f", "\xef\xbf", "\xf0", "\xf0\x90", "\xf0\x90\x80", "\xf4\x8f\xbf"},
		[]string{"a", "\x00", "é", "€", "\x80", "\xc0", "\xc1", "\xe0\x80", "\xed\xa0", "\xf0\x80", "\xf4\x90", "\xf5", "\xff", "\xc3\xa9\xc3", "\xf0\x90\x80\x80", "\xc3\xc3", long("\xe2", 3000)})...)
	for _, f := range []api.Find{{}, {Kind: 'f', Rune: "a"}, {Kind: 'F', Rune: "\t"}, {Kind: 't', Rune: "é"}, {Kind: 'T', Rune: "\x00"}} {
		l = append(l, trial{fmt.Sprint("find ", f), func(s *api.State) { s.Find = f }, true})
	}
	for _, f := range []api.Find{{Kind: 'f'}, {Rune: "a"}, {Kind: 'g', Rune: "a"}, {Kind: 'f', Rune: "\n"}, {Kind: 'f', Rune: "ab"}, {Kind: 'f', Rune: "\xff"}, {Kind: 'f', Rune: "\xc3"}, {Kind: -1, Rune: "a"}} {
		l = append(l, trial{fmt.Sprint("find ", f), func(s *api.State) { s.Find = f }, false})
	}
	flag := func(name string, do func(s *api.State), want bool) { l = append(l, trial{name, do, want}) }
	flag("long and cmd", func(s *api.State) { s.Long = true }, false)
	flag("long alone", func(s *api.State) { s.Long, s.Cmd = true, "" }, true)
	flag("back", func(s *api.State) { s.Back = !s.Back }, true)
	return l
}

// lists are trials of registers, marks and trees, of a full state, whose text at Cur is "aé".
func lists() []trial {
	var l []trial
	regs := func(want bool, r ...api.Reg) {
		l = append(l, trial{fmt.Sprintf("regs %.40s", fmt.Sprint(r)), func(s *api.State) { s.Regs = r }, want})
	}
	regs(true)
	regs(true, api.Reg{Name: 34}, api.Reg{Name: 45}, api.Reg{Name: 48}, api.Reg{Name: 57}, api.Reg{Name: 97}, api.Reg{Name: 122, Text: long("a", 4096)})
	for _, n := range []int{0, 33, 35, 44, 46, 47, 58, 65, 90, 96, 123, -1, 1 << 32} {
		regs(false, api.Reg{Name: n})
	}
	regs(false, api.Reg{Name: 'b'}, api.Reg{Name: 'a'})
	regs(false, api.Reg{Name: 'b'}, api.Reg{Name: 'b'})
	regs(false, api.Reg{Name: 'a', Text: "\xff"})
	regs(false, api.Reg{Name: 'a', Text: long("a", 4097)})
	marks := func(want bool, m ...api.Mark) {
		l = append(l, trial{fmt.Sprint("marks ", m), func(s *api.State) { s.Marks = m }, want})
	}
	marks(true)
	// A mark need not be at a place: "é" goes on at 2.
	marks(true, api.Mark{Name: 'a', At: 3}, api.Mark{Name: 'b', At: 2}, api.Mark{Name: 'z', At: 0})
	marks(false, api.Mark{Name: 'a', At: 4})
	marks(false, api.Mark{Name: 'a', At: 3}, api.Mark{Name: 'b', At: 5})
	marks(false, api.Mark{Name: 'a', At: -1})
	marks(false, api.Mark{Name: 'a', At: 1 << 40})
	marks(false, api.Mark{Name: 'A'})
	marks(false, api.Mark{Name: '{'})
	marks(false, api.Mark{Name: 'b'}, api.Mark{Name: 'a'})
	marks(false, api.Mark{Name: 'b'}, api.Mark{Name: 'b'})
	node := func(name string, do func(t *api.Tree), want bool) {
		l = append(l, trial{"tree " + name, func(s *api.State) {
			s.Tree.Nodes = slices.Clone(s.Tree.Nodes)
			do(&s.Tree)
		}, want})
	}
	node("as it is", func(t *api.Tree) {}, true)
	node("none", func(t *api.Tree) { *t = api.Tree{} }, false)
	node("root", func(t *api.Tree) { *t = root() }, true)
	node("cur below", func(t *api.Tree) { t.Cur = -1 }, false)
	node("cur above", func(t *api.Tree) { t.Cur = 4 }, false)
	node("another cur", func(t *api.Tree) { t.Cur = 0 }, false)
	node("another next", func(t *api.Tree) { t.Nodes[0].Next = 1 }, true)
	node("no next", func(t *api.Tree) { t.Nodes[0].Next = -1 }, false)
	node("up ahead", func(t *api.Tree) { t.Nodes[1].Up = 1 }, false)
	node("before is no place", func(t *api.Tree) { t.Nodes[3].Before = 2 }, false)
	node("before above", func(t *api.Tree) { t.Nodes[2].Before = 5 }, false)
	node("after is no place", func(t *api.Tree) { t.Nodes[3].After = 4 }, false)
	node("after above", func(t *api.Tree) { t.Nodes[1].After = 4 }, false)
	node("old is elsewhere", func(t *api.Tree) { t.Nodes[3].Change.At = 0 }, false)
	node("turned is elsewhere", func(t *api.Tree) { t.Nodes[1].Change.New = "b" }, false)
	node("new is not valid", func(t *api.Tree) { t.Nodes[2].Change.New = "\xff" }, false)
	node("long", func(t *api.Tree) { t.Nodes[2].Change.New = long("a", 4092) }, true)
	node("too long", func(t *api.Tree) { t.Nodes[2].Change.New = long("a", 4093) }, false)
	return l
}

// run makes trials of a state, with what may be of it: without bytes, if that is not so.
func run(t *testing.T, s api.State, l []trial) {
	t.Helper()
	if !state.Right(s) {
		t.Fatalf("mode %d: the state may not be", s.Mode)
	}
	for _, c := range l {
		x := s
		c.do(&x)
		if got := state.Right(x); got != c.want {
			t.Errorf("mode %d, %s: %v", s.Mode, c.name, got)
		}
		if got := state.Bytes(x) != ""; got != c.want {
			t.Errorf("mode %d, %s: bytes %v", s.Mode, c.name, got)
		}
	}
}

// P29.2, P29.3: what is asked for alike in all modes, field by field.
func TestFree(t *testing.T) {
	for _, m := range modes() {
		run(t, full(m), free())
		run(t, full(m), lists())
	}
}

// P29.2, P29.3: the mode, and what is asked for in each of them.
func TestModes(t *testing.T) {
	at := func(s *api.State) *int { return &s.At }
	anchor := func(s *api.State) *int { return &s.Anchor }
	keys := func(s *api.State) *string { return &s.Keys }
	line := func(s *api.State) *string { return &s.Line }
	ins := []trial{
		{"from", func(s *api.State) { s.In.From = 1 }, false},
		{"count", func(s *api.State) { s.In.Count = 1 }, false},
		{"before", func(s *api.State) { s.In.Before = 1 }, false},
		{"base", func(s *api.State) { s.In.Base = "a" }, false},
		{"base as text", func(s *api.State) { s.In.Base = s.Text }, false},
	}
	mode := nums("mode", func(s *api.State) *int { return &s.Mode }, 1, 7)
	signs := []string{"", "a", " ~", "é€", "\u0080", long("a", 80), long("é", 40)}
	noSigns := []string{"\t", "\x08", "\x0d", "\x1b", "\x12", "\x7f", "\x00", "\n", "\xff", "\xc3", "a\t", long("a", 81), long("é", 40) + "a"}
	const text = "aé\n\nb\n" // Normal are 0, 1, 4, 5 and 7.
	for _, m := range modes() {
		s := plain(text, m)
		switch m {
		case api.Normal:
			run(t, s, mode)
			run(t, s, nums("at", at, 0, 7, 2, 3, 6))
			run(t, s, nums("anchor", anchor, 0, 0))
			run(t, s, texts("keys", keys, []string{"", "2", `"`, `"a`, "d", "gu", "f", "r", "'", "2d", "\"-99c8g", "2" + long("3", 31)},
				[]string{"w", "0", "dd", "q", "\x1b", "fa", "\xff", "\x00", "2" + long("3", 32), "\x12", "du", "\"é"}))
			run(t, s, texts("line", line, []string{""}, []string{"a", "\n"}))
			run(t, s, ins)
		case api.Insert:
			run(t, s, nums("at", at, 0, 7, 2))
			run(t, s, nums("anchor", anchor, 0, 0))
			run(t, s, texts("keys", keys, []string{"", "\x12"}, []string{"2", "\x12a", "\x12\x12", "a", "\x1b", "\xff"}))
			run(t, s, texts("line", line, []string{""}, []string{"a", "\n"}))
		case api.Visual, api.Lines:
			run(t, s, mode)
			run(t, s, nums("at", at, 0, 7, 2, 3, 6))
			run(t, s, nums("anchor", anchor, 0, 7, 2, 3, 6))
			run(t, s, texts("keys", keys, []string{"", "2", `"`, `"a`, "g", "3i", "a", "f", "`", "2" + long("3", 31)},
				[]string{"d", "gu", "r", "m", "w", "v", "o", "q", "\x1b", "\x12", "\xff", "2" + long("3", 32)}))
			run(t, s, texts("line", line, []string{""}, []string{"a", "\n"}))
			run(t, s, ins)
		default:
			run(t, s, mode)
			run(t, s, nums("at", at, 0, 7, 2, 3, 6))
			run(t, s, nums("anchor", anchor, 0, 0))
			run(t, s, texts("keys", keys, []string{""}, []string{"2", "d", "g", "\x12", "\xff"}))
			run(t, s, texts("line", line, signs, noSigns))
			run(t, s, ins)
		}
	}
}

// P29.2, P29.3: the text, and its bound.
func TestText(t *testing.T) {
	of := func(s *api.State) *string { return &s.Text }
	good := []string{"", "a", "\n", "\x00", "é", long("a", 4096), long("é", 2048)}
	bad := []string{"\xff", "\xc3", "a\x80", "\xed\xa0\x80", long("a", 4097), long("é", 2048) + "a", long("a", 1<<20)}
	for _, m := range modes() {
		run(t, plain("", m), texts("text", of, good, bad))
	}
	base := func(s *api.State) *string { return &s.In.Base }
	run(t, plain("", api.Insert), texts("base", base, good, bad))
}

// P29.2, P29.3: what is known of an insertion.
func TestIn(t *testing.T) {
	s := plain("aé\nb", api.Insert)
	s.At, s.In.Base = 4, "€x"
	run(t, s, nums("from", func(s *api.State) *int { return &s.In.From }, 0, 4, 2))
	run(t, s, nums("count", func(s *api.State) *int { return &s.In.Count }, 0, 99))
	run(t, s, nums("before", func(s *api.State) *int { return &s.In.Before }, 0, 4, 1, 2))
	run(t, s, []trial{
		{"from at", func(s *api.State) { s.In.From = 4 }, true},
		{"from behind at", func(s *api.State) { s.At, s.In.From = 3, 4 }, false},
		{"at behind from", func(s *api.State) { s.At, s.In.From = 4, 3 }, true},
		{"marks of base", func(s *api.State) { s.Marks = []api.Mark{{Name: 'a', At: 4}} }, true},
		{"marks of text", func(s *api.State) { s.Marks = []api.Mark{{Name: 'a', At: 5}} }, false},
	})
	s = plain("a", api.Insert)
	for n := 1022; n <= 1025; n++ {
		s.Tree = deep(n)
		if got := state.Right(s); got != (n < 1024) {
			t.Errorf("%d nodes in Insert: %v", n, got)
		}
	}
	for _, m := range modes() {
		if m == api.Insert {
			continue
		}
		for n := 1022; n <= 1025; n++ {
			s = plain("a", m)
			s.Tree = deep(n)
			if got := state.Right(s); got != (n <= 1024) {
				t.Errorf("%d nodes in mode %d: %v", n, m, got)
			}
		}
	}
}

// begun are the keys that begin a command and are none, as phrase's chapter tells of them, in Normal and otherwise.
func begun(visual bool) *regexp.Regexp {
	const count, head = `(?:[1-9][0-9]*)?`, `(?:"[-"0-9a-zA-Z](?:[1-9][0-9]*)?)?`
	last := "[gfFtT'`rm]|(?:[dcy<>]|g[uU~])" + count + "[gfFtT'`ia]?"
	if visual {
		last = "[gfFtT'`ia]"
	}
	return regexp.MustCompile(`^` + count + `(?:"|` + head + `(?:` + last + `)?)$`)
}

// P29.2: Keys are what phrase tells More of, in Normal and otherwise: all keys of up to four of some.
func TestKeys(t *testing.T) {
	signs := []string{"", "0", "2", `"`, "a", "g", "u", "d", "f", "i", "'", "r", "v", "-", "\x12", "é"}
	visual, normal := begun(true), begun(false)
	s := plain("a", api.Normal)
	v := plain("a", api.Visual)
	c := plain("a", api.Search)
	i := plain("a", api.Insert)
	for _, a := range signs {
		for _, b := range signs {
			for _, d := range signs {
				for _, e := range signs {
					keys := a + b + d + e
					s.Keys, v.Keys, c.Keys, i.Keys = keys, keys, keys, keys
					if got := state.Right(s); got != normal.MatchString(keys) {
						t.Fatalf("keys %q: %v", keys, got)
					}
					if got := state.Right(v); got != visual.MatchString(keys) {
						t.Fatalf("keys %q, visual: %v", keys, got)
					}
					if state.Right(c) != (keys == "") || state.Right(i) != (keys == "" || keys == "\x12") {
						t.Fatalf("keys %q, otherwise", keys)
					}
				}
			}
		}
	}
}

// P29.2: Half is what begins a rune and has not ended it: all of up to two bytes, and many of three and four.
func TestHalf(t *testing.T) {
	begins := map[string]bool{"": true}
	for r := rune(0); r <= utf8.MaxRune; r++ {
		if utf8.ValidRune(r) {
			for b := string(r); len(b) > 1; {
				b = b[:len(b)-1]
				begins[b] = true
			}
		}
	}
	s := plain("a", api.Search)
	try := func(b ...byte) {
		s.Half = string(b)
		if got := state.Right(s); got != begins[s.Half] {
			t.Fatalf("half % x: %v", s.Half, got)
		}
	}
	try()
	edges := []byte{0, 0x7f, 0x80, 0x8f, 0x90, 0x9f, 0xa0, 0xbf, 0xc0, 0xc2, 0xdf, 0xe0, 0xed, 0xef, 0xf0, 0xf4, 0xf5, 0xff}
	for a := range 256 {
		try(byte(a))
		for b := range 256 {
			try(byte(a), byte(b))
		}
		for _, b := range edges {
			for _, c := range edges {
				try(byte(a), b, c)
				try(byte(a), b, c, 0x80)
			}
		}
	}
}

// places are the places of a valid text, and the normal ones, told rune by rune.
func places(text string) (all, normal []int) {
	for at, r := range text + "\n" {
		all = append(all, at)
		if r != '\n' || at == 0 || text[at-1] == '\n' {
			normal = append(normal, at)
		}
	}
	return all, normal
}

// P29.2: At, Anchor, From and Before, at all numbers of short texts, in all modes.
func TestPlaces(t *testing.T) {
	var short []string
	for _, a := range []string{"", "a", "é", "\n", "€"} {
		for _, b := range []string{"", "a", "é", "\n", "€"} {
			for _, c := range []string{"", "a", "\n"} {
				short = append(short, a+b+c)
			}
		}
	}
	for _, text := range short {
		all, normal := places(text)
		for at := -1; at <= len(text)+1; at++ {
			for other := -1; other <= len(text)+1; other++ {
				for _, m := range modes() {
					s := plain(text, m)
					s.At, s.Anchor = at, other
					want := slices.Contains(normal, at)
					switch m {
					case api.Insert:
						want = slices.Contains(all, at) && other == 0
					case api.Visual, api.Lines:
						want = want && slices.Contains(normal, other)
					default:
						want = want && other == 0
					}
					if got := state.Right(s); got != want {
						t.Fatalf("%q, mode %d, at %d, anchor %d: %v", text, m, at, other, got)
					}
				}
				s := plain(text, api.Insert)
				s.At, s.In.From = at, other
				if got, want := state.Right(s), slices.Contains(all, at) && slices.Contains(all, other) && other <= at; got != want {
					t.Fatalf("%q, at %d, from %d: %v", text, at, other, got)
				}
			}
			s := plain("x", api.Insert)
			s.In.Base, s.In.Before = text, at
			if got := state.Right(s); got != slices.Contains(all, at) {
				t.Fatalf("base %q, before %d: %v", text, at, got)
			}
		}
	}
}

// copied is a state in which no list is shared.
func copied(s api.State) api.State {
	s.Regs, s.Marks, s.Tree.Nodes = slices.Clone(s.Regs), slices.Clone(s.Marks), slices.Clone(s.Tree.Nodes)
	return s
}

// alterations are changes of one field each, also of one of a thing in a list: all that there are.
func alterations() []func(s *api.State) {
	return []func(s *api.State){
		func(s *api.State) { s.Text += "x" }, func(s *api.State) { s.At++ }, func(s *api.State) { s.Want++ }, func(s *api.State) { s.Mode++ },
		func(s *api.State) { s.Anchor++ }, func(s *api.State) { s.Keys += "x" }, func(s *api.State) { s.Cmd += "x" }, func(s *api.State) { s.Long = !s.Long },
		func(s *api.State) { s.Line += "x" }, func(s *api.State) { s.Dot += "x" }, func(s *api.State) { s.Pattern += "x" }, func(s *api.State) { s.Back = !s.Back },
		func(s *api.State) { s.Find.Kind++ }, func(s *api.State) { s.Find.Rune += "x" }, func(s *api.State) { s.Name += "x" }, func(s *api.State) { s.Half += "x" },
		func(s *api.State) { s.Status++ }, func(s *api.State) { s.In.From++ }, func(s *api.State) { s.In.Count++ }, func(s *api.State) { s.In.Before++ },
		func(s *api.State) { s.In.Base += "x" },
		func(s *api.State) { s.Regs = append(s.Regs, api.Reg{}) }, func(s *api.State) { s.Regs = s.Regs[1:] }, func(s *api.State) { s.Regs[1].Name++ },
		func(s *api.State) { s.Regs[0].Lines = !s.Regs[0].Lines }, func(s *api.State) { s.Regs[3].Text += "x" }, func(s *api.State) { s.Regs[0], s.Regs[1] = s.Regs[1], s.Regs[0] },
		func(s *api.State) { s.Marks = append(s.Marks, api.Mark{}) }, func(s *api.State) { s.Marks = s.Marks[:2] }, func(s *api.State) { s.Marks[2].Name++ },
		func(s *api.State) { s.Marks[0].At++ }, func(s *api.State) { s.Tree.Cur++ }, func(s *api.State) { s.Tree.Nodes = append(s.Tree.Nodes, api.Node{}) },
		func(s *api.State) { s.Tree.Nodes = s.Tree.Nodes[:3] }, func(s *api.State) { s.Tree.Nodes[3].Up++ }, func(s *api.State) { s.Tree.Nodes[0].Next++ },
		func(s *api.State) { s.Tree.Nodes[1].Before++ }, func(s *api.State) { s.Tree.Nodes[2].After++ }, func(s *api.State) { s.Tree.Nodes[2].Change.At++ },
		func(s *api.State) { s.Tree.Nodes[1].Change.Old += "x" }, func(s *api.State) { s.Tree.Nodes[3].Change.New += "x" },
	}
}

// P29.2: two states are the same if all of them is, may they be or not.
func TestSame(t *testing.T) {
	for _, m := range modes() {
		a := full(m)
		if !state.Same(a, copied(a)) {
			t.Fatalf("mode %d: it is another one", m)
		}
		for k, one := range alterations() {
			b := copied(a)
			one(&b)
			if state.Same(a, b) || state.Same(b, a) || !state.Same(b, copied(b)) {
				t.Errorf("mode %d, alteration %d", m, k)
			}
			for j, other := range alterations() {
				c := copied(a)
				other(&c)
				if got := state.Same(b, c); got != (k == j) {
					t.Errorf("mode %d, alterations %d and %d: %v", m, k, j, got)
				}
			}
		}
	}
	// No list is the empty list.
	a, b := plain("a", 1), plain("a", 1)
	b.Regs, b.Marks = []api.Reg{}, []api.Mark{}
	if !state.Same(a, b) || !state.Same(b, a) {
		t.Error("no list is another one than the empty list")
	}
	c := api.State{Regs: []api.Reg{}, Marks: make([]api.Mark, 0, 3), Tree: api.Tree{Nodes: []api.Node{}}}
	if !state.Same(api.State{}, c) || !state.Same(c, api.State{}) {
		t.Error("the zero state is another one than one of empty lists")
	}
}

// encoder puts bytes together as the chapter says.
type encoder struct{ b []byte }

func (x *encoder) num(l ...int) {
	for _, n := range l {
		x.b = binary.LittleEndian.AppendUint32(x.b, uint32(n))
	}
}

func (x *encoder) text(l ...string) {
	for _, s := range l {
		x.num(len(s))
		x.b = append(x.b, s...)
	}
}

func (x *encoder) flag(f bool) {
	if f {
		x.num(1)
	} else {
		x.num(0)
	}
}

// treeBytes are a tree's bytes.
func treeBytes(t api.Tree) string {
	var x encoder
	x.num(len(t.Nodes))
	for _, n := range t.Nodes {
		x.num(n.Up+1, n.Next+1, n.Before, n.After, n.Change.At)
		x.text(n.Change.Old, n.Change.New)
	}
	x.num(t.Cur)
	return string(x.b)
}

// bytes are a state's bytes, those of a state that may not be as well.
func bytes(s api.State) string {
	var x encoder
	x.text(s.Text)
	x.num(s.At, s.Want, s.Mode, s.Anchor)
	x.text(s.Keys, s.Cmd)
	x.flag(s.Long)
	x.text(s.Line, s.Dot, s.Pattern)
	x.flag(s.Back)
	x.num(s.Find.Kind)
	x.text(s.Find.Rune, s.Name, s.Half)
	x.num(int(s.Status), s.In.From, s.In.Count, s.In.Before)
	x.text(s.In.Base)
	x.num(len(s.Regs))
	for _, r := range s.Regs {
		x.num(r.Name)
		x.flag(r.Lines)
		x.text(r.Text)
	}
	x.num(len(s.Marks))
	for _, m := range s.Marks {
		x.num(m.Name, m.At)
	}
	return string(x.b) + treeBytes(s.Tree)
}

// P29.3: a state's bytes, and how many those of the empty text are.
func TestBytes(t *testing.T) {
	s, _ := state.New("")
	if b := state.Bytes(s); len(b) != 128 || b != bytes(s) {
		t.Errorf("the empty text's: %d bytes, % x", len(b), b)
	}
	for _, s := range many() {
		if b := state.Bytes(s); b != bytes(s) || b == "" {
			t.Errorf("mode %d: % x, want % x", s.Mode, b, bytes(s))
		}
		for k, one := range alterations() {
			if len(s.Regs) == 0 {
				break
			}
			x := copied(s)
			one(&x)
			want := ""
			if state.Right(x) {
				want = bytes(x)
			}
			if b := state.Bytes(x); b != want {
				t.Errorf("mode %d, alteration %d: % x, want % x", s.Mode, k, b, want)
			}
		}
	}
	if state.Bytes(api.State{}) != "" {
		t.Error("the zero state has bytes")
	}
}

// read is what Read tells of bytes, and how many are left then.
func read(b string) (api.State, api.Errno, int) {
	r := code.NewReader(b)
	s, e := state.Read(r)
	return s, e, r.Left()
}

// P29.4, P29.5: what was written is read, and nothing behind it; all beginnings of it end too early.
func TestRead(t *testing.T) {
	for _, s := range many() {
		b := state.Bytes(s)
		for _, more := range []string{"", "z", b} {
			got, e, left := read(b + more)
			if e != api.OK || !state.Same(got, s) || left != len(more) || state.Bytes(got) != b {
				t.Fatalf("mode %d: %v, %d, %d left", s.Mode, got, int(e), left)
			}
		}
		for n := range b {
			if got, e, left := read(b[:n]); e != api.ErrEnd || left != 0 || !reflect.DeepEqual(got, api.State{}) {
				t.Fatalf("mode %d, %d bytes: %v, %d", s.Mode, n, got, int(e))
			}
		}
	}
}

// P29.4: readers that read nothing.
func TestNobody(t *testing.T) {
	failed := code.NewReader("\xff\xff\xff\xff")
	failed.Num()
	for want, r := range map[api.Errno]*code.Reader{api.ErrEnd: nil, api.ErrRange: failed} {
		if s, e := state.Read(r); e != want || !reflect.DeepEqual(s, api.State{}) {
			t.Errorf("%v, %d, want %d", s, int(e), int(want))
		}
	}
	if s, e := state.Read(&code.Reader{}); e != api.ErrEnd || !reflect.DeepEqual(s, api.State{}) {
		t.Errorf("a zero reader: %v, %d", s, int(e))
	}
}

// decoder reads as the chapter says, thing by thing, till something has an error.
type decoder struct {
	b   string
	e   api.Errno
	odd bool
}

func (d *decoder) fail(e api.Errno, n int) {
	if d.e == api.OK {
		d.e, d.b = e, d.b[n:]
	}
}

func (d *decoder) num() int {
	switch {
	case d.e != api.OK:
		return 0
	case len(d.b) < 4:
		d.fail(api.ErrEnd, 0)
		return 0
	}
	n := binary.LittleEndian.Uint32([]byte(d.b))
	if n > math.MaxInt32 {
		d.fail(api.ErrRange, 0)
		return 0
	}
	d.b = d.b[4:]
	return int(n)
}

func (d *decoder) text() string {
	n := d.num()
	switch {
	case d.e != api.OK:
		return ""
	case n > 4096:
		d.fail(api.ErrRange, 0)
		return ""
	case n > len(d.b):
		d.fail(api.ErrEnd, 0)
		return ""
	}
	s := d.b[:n]
	d.b = d.b[n:]
	return s
}

func (d *decoder) flag() bool {
	n := d.num()
	d.odd = d.odd || n > 1
	return n == 1
}

// many reads how many things there are.
func (d *decoder) many(most int) int {
	n := d.num()
	if n > most {
		d.fail(api.ErrForm, 0)
		return 0
	}
	return n
}

// state reads a state, and tells whether all of it could be read.
func (d *decoder) state() (api.State, bool) {
	var s api.State
	s.Text = d.text()
	s.At, s.Want, s.Mode, s.Anchor = d.num(), d.num(), d.num(), d.num()
	s.Keys, s.Cmd = d.text(), d.text()
	s.Long = d.flag()
	s.Line, s.Dot, s.Pattern = d.text(), d.text(), d.text()
	s.Back = d.flag()
	s.Find.Kind = d.num()
	s.Find.Rune, s.Name, s.Half = d.text(), d.text(), d.text()
	s.Status = api.Errno(d.num())
	s.In.From, s.In.Count, s.In.Before = d.num(), d.num(), d.num()
	s.In.Base = d.text()
	for range d.many(40) {
		s.Regs = append(s.Regs, api.Reg{Name: d.num(), Lines: d.flag(), Text: d.text()})
	}
	for range d.many(26) {
		s.Marks = append(s.Marks, api.Mark{Name: d.num(), At: d.num()})
	}
	for range d.num() {
		n := api.Node{Up: d.num() - 1, Next: d.num() - 1, Before: d.num(), After: d.num()}
		n.Change = api.Change{At: d.num(), Old: d.text(), New: d.text()}
		if d.e != api.OK {
			break
		}
		s.Tree.Nodes = append(s.Tree.Nodes, n)
	}
	s.Tree.Cur = d.num()
	return s, d.e == api.OK
}

// against holds what Read tells of bytes against what the chapter says.
func against(t *testing.T, b string) {
	t.Helper()
	d := decoder{b: b}
	want, ok := d.state()
	got, e, left := read(b)
	switch {
	case !ok:
		stands := 0
		if d.e == api.ErrForm { // the reader stands behind the number, with all that follows left
			stands = len(d.b)
		}
		if e != d.e || left != stands || !reflect.DeepEqual(got, api.State{}) {
			t.Fatalf("% x: %v, %d, %d left, want %d", b, got, int(e), left, int(d.e))
		}
	case d.odd || !state.Right(want):
		if e != api.ErrForm || !reflect.DeepEqual(got, api.State{}) {
			t.Fatalf("% x: %v, %d, want ErrForm", b, got, int(e))
		}
	default:
		if e != api.OK || !state.Same(got, want) || left != len(d.b) || state.Bytes(got) != b[:len(b)-left] {
			t.Fatalf("% x: %v, %d, want %v", b, got, int(e), want)
		}
	}
}

// P29.4, P29.5: bytes in which four bytes, wherever they are, are another number, or one byte is another one.
func TestOther(t *testing.T) {
	numbers := []uint32{0, 1, 2, 3, 18, 19, 26, 27, 40, 41, 100, 1024, 1025, 4096, 4097, 1 << 20, math.MaxInt32, 1 << 31, math.MaxUint32}
	for _, s := range many() {
		b := state.Bytes(s)
		for at := range b {
			for _, by := range []byte{0, 1, 2, '\n', 'a', 0x7f, 0x80, 0xff, b[at] + 1, b[at] - 1} {
				x := []byte(b)
				x[at] = by
				against(t, string(x))
			}
			if at+4 > len(b) {
				continue
			}
			for _, n := range numbers {
				x := []byte(b)
				binary.LittleEndian.PutUint32(x[at:], n)
				against(t, string(x))
			}
		}
	}
}

// P29.4: too many registers, or marks, and nothing more is read; as many as there may be are read, though they may not be.
func TestMany(t *testing.T) {
	for n := 38; n <= 45; n++ {
		s := plain("a", 1)
		s.Regs = make([]api.Reg, n)
		b := bytes(s)
		_, e, left := read(b + "zz")
		want := 2
		if n > 40 {
			want = n*12 + 4 + len(treeBytes(s.Tree)) + 2
		}
		if e != api.ErrForm || left != want {
			t.Errorf("%d registers: %d, %d left, want %d", n, int(e), left, want)
		}
		// The end is told where it is, and not that there would be too many, if these can't be read.
		if _, e, _ := read(b[:len(b)-1]); n <= 40 && e != api.ErrEnd || n > 40 && e != api.ErrForm {
			t.Errorf("%d registers, one byte less: %d", n, int(e))
		}
	}
	for n := 24; n <= 30; n++ {
		s := plain("a", 1)
		s.Marks = make([]api.Mark, n)
		b := bytes(s)
		_, e, left := read(b + "zz")
		want := 2
		if n > 26 {
			want = n*8 + len(treeBytes(s.Tree)) + 2
		}
		if e != api.ErrForm || left != want {
			t.Errorf("%d marks: %d, %d left, want %d", n, int(e), left, want)
		}
	}
}

// P29.4: a bool's number that is none is told behind all else that can't be read.
func TestOdd(t *testing.T) {
	for _, at := range []int{4 + 1 + 16 + 4 + 4, 4 + 1 + 16 + 4 + 4 + 4 + 12} { // Long, Back
		b := []byte(bytes(plain("a", 1)))
		for _, n := range []uint32{2, 3, 256, 1 << 24, math.MaxInt32} {
			binary.LittleEndian.PutUint32(b[at:], n)
			if s, e, left := read(string(b) + "z"); e != api.ErrForm || left != 1 || !reflect.DeepEqual(s, api.State{}) {
				t.Errorf("%d at %d: %v, %d, %d left", n, at, s, int(e), left)
			}
			if _, e, _ := read(string(b[:len(b)-1])); e != api.ErrEnd {
				t.Errorf("%d at %d, one byte less: %d", n, at, int(e))
			}
			long := append([]byte{}, b...)
			binary.LittleEndian.PutUint32(long[len(long)-8:], 5000) // the root's New
			if _, e, _ := read(string(long)); e != api.ErrRange {
				t.Errorf("%d at %d, a text that is too long behind it: %d", n, at, int(e))
			}
		}
		binary.LittleEndian.PutUint32(b[at:], 1)
		if s, e, _ := read(string(b)); e != api.OK || s.Long == s.Back {
			t.Errorf("1 at %d: %v, %d", at, s, int(e))
		}
	}
	// A register's.
	s := plain("a", 1)
	s.Regs = []api.Reg{{Name: 'a', Text: "x"}}
	b := []byte(bytes(s))
	at := len(b) - len(treeBytes(s.Tree)) - 4 - 5 - 4
	b[at] = 1
	if s, e, _ := read(string(b)); e != api.OK || !s.Regs[0].Lines {
		t.Errorf("a register's 1: %v, %d", s, int(e))
	}
	b[at] = 2
	if _, e, _ := read(string(b)); e != api.ErrForm {
		t.Errorf("a register's 2: %d", int(e))
	}
}

// pick tells one of some things.
func pick[T any](r *rand.Rand, l ...T) T { return l[r.Intn(len(l))] }

// grown is a text, and a tree of changes of it.
func grown(r *rand.Rand) (string, api.Tree) {
	text, t := "", tree.New()
	for range r.Intn(8) {
		if r.Intn(3) == 0 && t.Cur > 0 {
			c := t.Nodes[t.Cur].Change
			text = text[:c.At] + c.Old + text[c.At+len(c.New):]
			t, _, _ = tree.Undo(t)
			continue
		}
		all, _ := places(text)
		from, to := pick(r, all...), pick(r, all...)
		from, to = min(from, to), max(from, to)
		c := api.Change{At: from, Old: text[from:to], New: pick(r, "", "a", "é\n", "\n\n", "xy z")}
		next := text[:from] + c.New + text[to:]
		behind, _ := places(next)
		t, _ = tree.Add(t, c, pick(r, all...), pick(r, behind...))
		text = next
	}
	return text, t
}

// random is a state that may be.
func random(r *rand.Rand) api.State {
	text, tr := grown(r)
	s := api.State{Text: text, Tree: tr, Mode: 1 + r.Intn(7), Want: r.Intn(api.MaxWant + 1), Status: api.Errno(r.Intn(19))}
	s.Cmd, s.Dot = pick(r, "", "vjj", "\x12é\x1b"), pick(r, "", "dd", long("é", 512))
	s.Long = s.Cmd == "" && r.Intn(2) == 0
	s.Back = r.Intn(2) == 0
	s.Pattern = pick(r, "", "é", long("p", 80))
	s.Find = pick(r, api.Find{}, api.Find{Kind: 'f', Rune: "é"}, api.Find{Kind: 'T', Rune: "x"})
	s.Name, s.Half = pick(r, "", "f1", long("z", 16)), pick(r, "", "\xc3", "\xf0\x9f\x98")
	for _, n := range "\"-0123456789abcdefghijklmnopqrstuvwxyz" {
		if r.Intn(6) == 0 {
			s.Regs = append(s.Regs, api.Reg{Name: int(n), Lines: r.Intn(2) == 0, Text: pick(r, "", "é\n", "word")})
		}
	}
	for n := 'a'; n <= 'z'; n++ {
		if r.Intn(6) == 0 {
			s.Marks = append(s.Marks, api.Mark{Name: int(n), At: r.Intn(len(text) + 1)})
		}
	}
	all, normal := places(text)
	s.At = pick(r, normal...)
	switch s.Mode {
	case api.Normal:
		s.Keys = pick(r, "", "2", `"ad3g`)
	case api.Insert:
		s.Keys = pick(r, "", "\x12")
		s.In = api.Entry{Count: r.Intn(100), Before: pick(r, all...), Base: text}
		s.Text = pick(r, text, text+"new\né", "\nother")
		all, _ = places(s.Text)
		s.At = pick(r, all...)
		s.In.From = pick(r, all[:slices.Index(all, s.At)+1]...)
	case api.Visual, api.Lines:
		s.Keys, s.Anchor = pick(r, "", "2", "g"), pick(r, normal...)
	default:
		s.Line = pick(r, "", "s/a/é/", long("~", 80))
	}
	return s
}

// P29.2 to P29.5: states by chance, and what comes of them with another byte, or with bytes put in or taken out.
func TestChance(t *testing.T) {
	r := rand.New(rand.NewSource(29))
	last := plain("", 1)
	for range 3000 {
		s := random(r)
		b := bytes(s)
		if !state.Right(s) || state.Bytes(s) != b {
			t.Fatalf("it may not be: %v", s)
		}
		if state.Same(s, last) != (bytes(last) == b) {
			t.Fatalf("the same: %v, %v", s, last)
		}
		last = s
		if got, e, left := read(b); e != api.OK || left != 0 || !state.Same(got, s) {
			t.Fatalf("read: %v, %d, want %v", got, int(e), s)
		}
		for range 4 {
			x := []byte(b)
			at := r.Intn(len(x))
			switch r.Intn(3) {
			case 0:
				x[at] = byte(r.Intn(256))
			case 1:
				x = slices.Delete(x, at, min(at+1+r.Intn(4), len(x)))
			default:
				x = slices.Insert(x, at, byte(r.Intn(4)), 0, 0, 0)
			}
			against(t, string(x))
		}
	}
}

// greatest is a state of as many bytes as there can be, but for its tree.
func greatest() api.State {
	s := plain(long("a", 4096), api.Insert)
	s.At, s.Want, s.Keys = 4096, api.MaxWant, "\x12"
	s.Cmd, s.Dot, s.Pattern = long("a", 1024), long("b", 1024), long("p", 80)
	s.Back, s.Find, s.Name, s.Half = true, api.Find{Kind: 'f', Rune: "\U0001f600"}, long("n", 16), "\xf0\x9f\x98"
	s.Status, s.In = 18, api.Entry{From: 4096, Count: 99, Before: 4096, Base: long("b", 4096)}
	for _, n := range "\"-0123456789abcdefghijklmnopqrstuvwxyz" {
		s.Regs = append(s.Regs, api.Reg{Name: int(n), Lines: true, Text: long("r", 4096)})
	}
	for n := 'a'; n <= 'z'; n++ {
		s.Marks = append(s.Marks, api.Mark{Name: int(n), At: 4096})
	}
	return s
}

// P29.5: the greatest state is read back, and has at most 200,000 bytes more than its tree.
func TestGreatest(t *testing.T) {
	s := greatest()
	b := state.Bytes(s)
	more := len(b) - len(treeBytes(s.Tree))
	if b != bytes(s) || more > 200000 || more < 160000 {
		t.Fatalf("%d bytes more", more)
	}
	if got, e, left := read(b); e != api.OK || left != 0 || !state.Same(got, s) {
		t.Fatal(int(e), left)
	}
}

// P29.2 to P29.5: a great tree takes no long time.
func TestLong(t *testing.T) {
	start := time.Now()
	text := long("é", 2048)
	s := plain(text, api.Normal)
	for k := 1; k < api.MaxNodes; k++ {
		c := api.Change{At: 0, Old: text, New: text}
		s.Tree.Nodes[k-1].Next = k
		s.Tree.Nodes = append(s.Tree.Nodes, api.Node{Up: k - 1, Next: -1, Before: 4096, After: 4096, Change: c})
	}
	s.Tree.Cur = api.MaxNodes - 1
	b := state.Bytes(s)
	got, e, _ := read(b)
	if b == "" || e != api.OK || !state.Same(got, s) {
		t.Error(len(b), int(e))
	}
	s.Keys, s.Marks, s.Regs = long("2", 1<<20), make([]api.Mark, 1<<18), make([]api.Reg, 1<<18)
	s.Half, s.Name, s.Line, s.Dot, s.Find.Rune = s.Keys, s.Keys, s.Keys, s.Keys, s.Keys
	if state.Right(s) {
		t.Error("what is too long may be")
	}
	// Bytes that tell of much, and have little.
	for _, n := range []int{40, 26, math.MaxInt32} {
		var x encoder
		x.b = []byte(bytes(plain("", 1)))[:4*23]
		x.num(n)
		read(string(x.b))
	}
	if d := time.Since(start); d > 20*time.Second {
		t.Error(d)
	}
}

// shares tells whether two texts share memory.
func shares(a, b string) bool {
	if a == "" || b == "" {
		return false
	}
	x, y := uintptr(unsafe.Pointer(unsafe.StringData(a))), uintptr(unsafe.Pointer(unsafe.StringData(b)))
	return x < y+uintptr(len(b)) && y < x+uintptr(len(a))
}

// strung are all texts of a state.
func strung(s api.State) []string {
	l := []string{s.Text, s.Keys, s.Cmd, s.Line, s.Dot, s.Pattern, s.Find.Rune, s.Name, s.Half, s.In.Base}
	for _, r := range s.Regs {
		l = append(l, r.Text)
	}
	for _, n := range s.Tree.Nodes {
		l = append(l, n.Change.Old, n.Change.New)
	}
	return l
}

// P29.1, P29.3, P29.4: what is answered is new memory.
func TestMemory(t *testing.T) {
	text := string([]byte("ab\nc"))
	s, _ := state.New(text)
	if shares(s.Text, text) {
		t.Error("New shares the text")
	}
	u, _ := state.New(text)
	u.Tree.Nodes[0].Next = 5
	if s.Tree.Nodes[0].Next != -1 {
		t.Error("two states share a tree")
	}
	for _, s := range many() {
		b := state.Bytes(s)
		for _, x := range strung(s) {
			if shares(b, x) {
				t.Error("Bytes shares a text")
			}
		}
		got, _, _ := read(b)
		l := strung(got)
		for i, x := range l {
			if shares(b, x) {
				t.Error("Read shares the bytes")
			}
			for j, y := range l {
				if i != j && len(x) > 1 && shares(x, y) {
					t.Error("Read's texts share memory")
				}
			}
		}
	}
}

// P29.2 to P29.4: what is handed in is not changed, nor what stands behind its lists, and not kept.
func TestKept(t *testing.T) {
	for _, s := range many() {
		s = copied(s)
		s.Regs = append(s.Regs, api.Reg{Name: 7})[:len(s.Regs)]
		s.Marks = append(s.Marks, api.Mark{Name: 7})[:len(s.Marks)]
		s.Tree.Nodes = append(s.Tree.Nodes, api.Node{Up: 7})[:len(s.Tree.Nodes)]
		was := copied(s)
		state.Right(s)
		state.Idle(s)
		state.Same(s, s)
		b := state.Bytes(s)
		if !reflect.DeepEqual(copied(s), was) {
			t.Errorf("mode %d: it is changed", s.Mode)
		}
		if s.Regs[:len(s.Regs)+1][len(s.Regs)].Name != 7 || s.Marks[:len(s.Marks)+1][len(s.Marks)].Name != 7 || s.Tree.Nodes[:len(s.Tree.Nodes)+1][len(s.Tree.Nodes)].Up != 7 {
			t.Errorf("mode %d: what stands behind a list is changed", s.Mode)
		}
		one, _, _ := read(b)
		for i := range one.Regs {
			one.Regs[i].Text = "other"
		}
		for i := range one.Tree.Nodes {
			one.Tree.Nodes[i].Up = 9
		}
		if two, e, _ := read(b); e != api.OK || !state.Same(two, s) {
			t.Errorf("mode %d: what was answered is kept", s.Mode)
		}
	}
}
