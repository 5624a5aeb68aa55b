package reg_test

import (
	"math"
	"math/rand"
	"slices"
	"strings"
	"testing"
	"unicode/utf8"
	"unsafe"

	"calamus/api"
	"calamus/reg"
)

// list is registers, as they are handed in.
type list = []api.Reg

// all has all names, as they rise.
const all = "\"-0123456789abcdefghijklmnopqrstuvwxyz"

// what is one of the two ways to keep a text.
type what struct {
	name    string
	call    func(list, int, string, bool) (list, api.Errno)
	deletes bool
}

func ways() []what {
	return []what{{"Yank", reg.Yank, false}, {"Delete", reg.Delete, true}}
}

// numbers are all that name a register, and what lies beside them in some way.
func numbers() []int {
	l := []int{math.MinInt, math.MinInt + 'a', math.MinInt32, 'a' + 1<<32, 'A' + 1<<16, '"' + 1<<40, '0' - 1<<32, math.MaxInt32, math.MaxInt - 1, math.MaxInt}
	for n := -130; n < 300; n++ {
		l = append(l, n)
	}
	return l
}

// noNames are some numbers that name none.
func noNames() []int {
	return []int{math.MinInt, -300, -'a', -'"', -1, 1, 9, 31, '!', '#', ',', '.', '/', ':', '@', '[', '^', '_', '`', '{', 127, 128, 0xe9, 'a' + 256, '0' + 1<<16, 'A' + 1<<32, math.MaxInt}
}

// wantName is what the chapter says of a number.
func wantName(n int) int {
	if n == 0 {
		return '"'
	}
	for _, c := range all {
		if n == int(c) || c >= 'a' && string(rune(n)) == strings.ToUpper(string(c)) {
			return int(c)
		}
	}
	return 0
}

// texts are some that a register may keep.
func texts() []string {
	return []string{"", "a", "bc", "\n", "d\n", "\ne", "f\ng", "\u00e9\u20ac\U0001f600", "\x00", "\r", "\u2028", "\ufffd"}
}

// notValid are bytes that are no valid text.
func notValid() []string {
	l := []string{"\xff", "\x80", "\xc3", "\xe2\x82", "\xf0\x9f\x98", "\xc0\xaf", "\xed\xa0\x80", "\xf4\x90\x80\x80"}
	for _, s := range l {
		l = append(l, s+"a", "a\n"+s, "\u00e9"+s+"\u00e9")
	}
	return append(l, strings.Repeat("a", api.MaxText)+"\xff")
}

// full are registers of all names, each with a text of its own.
func full() list {
	l := list{}
	for i, c := range all {
		l = append(l, api.Reg{Name: int(c), Lines: i%3 == 0, Text: "of " + string(c)})
	}
	return l
}

// rights are registers that may be: none, one, some, and all.
func rights() []list {
	long := strings.Repeat("a", api.MaxText)
	l := []list{
		nil,
		{},
		{{Name: '"'}},
		{{Name: '-', Text: "a"}, {Name: '0', Text: "b", Lines: true}},
		{{Name: '1', Text: "a\nb"}, {Name: '9', Lines: true}},
		{{Name: '"', Text: "a"}, {Name: '8', Text: "8"}, {Name: 'z', Text: "z"}},
		{{Name: 'a', Text: long}, {Name: 'b', Lines: true, Text: strings.Repeat("\u20ac", api.MaxText/3) + "a"}},
		{{Name: 'q', Lines: true, Text: "\n\n"}},
		full(),
	}
	for i := range all {
		l = append(l, full()[i:i+1], slices.Delete(full(), i, i+1))
	}
	return l
}

// wrongs are registers that may not be.
func wrongs() []list {
	l := []list{
		// They do not rise.
		{{Name: 'b'}, {Name: 'a'}},
		{{Name: '-'}, {Name: '"'}},
		{{Name: '1'}, {Name: '0'}},
		{{Name: '0'}, {Name: '-'}},
		{{Name: 'a'}, {Name: '9'}},
		{{Name: '"'}, {Name: 'b'}, {Name: 'a'}, {Name: 'c'}},
		// One name twice.
		{{Name: 'a'}, {Name: 'a'}},
		{{Name: '"', Text: "a"}, {Name: '"', Text: "b"}},
		{{Name: '"'}, {Name: '0'}, {Name: '0'}, {Name: 'z'}},
		append(full(), api.Reg{Name: 'z'}),
		append(full(), full()...),
		// A number that names one is no name of one.
		{{}},
		{{}, {Name: 'a'}},
		{{Name: 'A'}},
		{{Name: '"'}, {Name: 'Z'}, {Name: 'a'}},
	}
	long := strings.Repeat("a", api.MaxText+1)
	for i := range all {
		for _, n := range noNames() {
			x := full()
			x[i].Name = n
			l = append(l, list{{Name: n}}, x)
		}
		for _, s := range append(notValid(), long) {
			x := full()
			x[i].Text = s
			l = append(l, list{{Name: int(all[i]), Text: s}}, x)
		}
	}
	return l
}

// wantRight is what the chapter says of registers that may be.
func wantRight(l list) bool {
	last := -1
	for _, r := range l {
		i := -1
		for at, c := range all {
			if r.Name == int(c) {
				i = at
			}
		}
		if i <= last || !utf8.ValidString(r.Text) || len(r.Text) > 4096 {
			return false
		}
		last = i
	}
	return true
}

// shelf has a place for each register, by its name.
type shelf [128]*api.Reg

func shelved(l list) *shelf {
	s := &shelf{}
	for _, r := range l {
		s[r.Name] = &api.Reg{Name: r.Name, Lines: r.Lines, Text: r.Text}
	}
	return s
}

func (s *shelf) list() list {
	l := list{}
	for _, c := range all {
		if s[c] != nil {
			l = append(l, *s[c])
		}
	}
	return l
}

func (s *shelf) put(name int, text string, lines bool) {
	s[name] = &api.Reg{Name: name, Lines: lines, Text: text}
}

// wantKept is what the chapter says of a text that is yanked, or deleted, step by step.
func wantKept(l list, n int, text string, lines, deletes bool) (list, api.Errno) {
	if !wantRight(l) || !utf8.ValidString(text) {
		return nil, api.ErrArg
	}
	name := wantName(n)
	if name == 0 {
		return nil, api.ErrName
	}
	s := shelved(l)
	if n >= 'A' && n <= 'Z' && s[name] != nil {
		if lines || s[name].Lines {
			text, lines = "\n"+text, true
		}
		text = s[name].Text + text
	}
	if len(text) > 4096 {
		return nil, api.ErrRoom
	}
	s.put(name, text, lines)
	s.put('"', text, lines)
	switch {
	case n != 0 && n != '"':
	case !deletes:
		s.put('0', text, lines)
	case !lines && !strings.Contains(text, "\n"):
		s.put('-', text, lines)
	default:
		for k := int('9'); k > '1'; k-- {
			if s[k-1] == nil {
				s[k] = nil
			} else {
				s.put(k, s[k-1].Text, s[k-1].Lines)
			}
		}
		s.put('1', text, lines)
	}
	return s.list(), api.OK
}

// tells holds what is kept against registers.
func tells(t *testing.T, w what, l list, n int, text string, lines bool, want list) {
	t.Helper()
	if got, e := w.call(l, n, text, lines); !slices.Equal(got, want) || e != api.OK {
		t.Errorf("%s(%v, %d, %q, %t): %v, error %d, not %v", w.name, l, n, text, lines, got, e, want)
	}
}

// refuses holds what is not kept against an error.
func refuses(t *testing.T, w what, l list, n int, text string, lines bool, want api.Errno) {
	t.Helper()
	if got, e := w.call(l, n, text, lines); len(got) != 0 || e != want {
		t.Errorf("%s(%d registers, %d, %d bytes, %t): %d registers, error %d, not %d", w.name, len(l), n, len(text), lines, len(got), e, want)
	}
}

// P21.1: the names are those that the chapter has; 0 and A to Z name some of them, and nothing else does.
func TestName(t *testing.T) {
	n := 0
	for _, x := range numbers() {
		if got := reg.Name(x); got != wantName(x) {
			t.Errorf("%d: %d, not %d", x, got, wantName(x))
		}
		if reg.Name(x) != 0 {
			n++
		}
	}
	if n != 1+38+26 {
		t.Errorf("%d numbers name one", n)
	}
	for _, x := range noNames() {
		if reg.Name(x) != 0 {
			t.Errorf("%d: %d", x, reg.Name(x))
		}
	}
	for _, x := range []struct{ n, name int }{{0, 34}, {34, 34}, {45, 45}, {48, 48}, {57, 57}, {97, 97}, {122, 122}, {65, 97}, {77, 109}, {90, 122}, {33, 0}, {46, 0}, {47, 0}, {58, 0}, {64, 0}, {91, 0}, {96, 0}, {123, 0}} {
		if got := reg.Name(x.n); got != x.name {
			t.Errorf("%d: %d, not %d", x.n, got, x.name)
		}
	}
}

// P21.1: registers that may be, and registers that may not be, by hand.
func TestRight(t *testing.T) {
	for _, l := range rights() {
		if !reg.Right(l) {
			t.Errorf("%v", l)
		}
	}
	for _, l := range wrongs() {
		if reg.Right(l) {
			t.Errorf("%v may be", l)
		}
	}
}

// P21.1: all lists of up to three of some registers.
func TestRightOfAll(t *testing.T) {
	some := list{}
	for _, n := range []int{0, '"', '-', '/', '0', '9', ':', 'A', 'a', 'b', 'z', '{', 'a' + 256} {
		for _, s := range []string{"a", "\xff", strings.Repeat("b", api.MaxText+1)} {
			some = append(some, api.Reg{Name: n, Lines: n%2 == 0, Text: s})
		}
	}
	n := 0
	hold := func(l list) {
		if reg.Right(l) != wantRight(l) {
			t.Errorf("%v: %t", l, !wantRight(l))
		}
		if wantRight(l) {
			n++
		}
	}
	for _, x := range some {
		hold(list{x})
		for _, y := range some {
			hold(list{x, y})
			for _, z := range some {
				hold(list{x, y, z})
			}
		}
	}
	if n != 7+21+35 {
		t.Errorf("%d may be", n)
	}
}

// P21.1: the register that each number names, and none of what names none, or is not there.
func TestGet(t *testing.T) {
	for _, l := range rights() {
		for _, n := range numbers() {
			want, there := api.Reg{}, false
			for _, r := range l {
				if r.Name == wantName(n) {
					want, there = r, true
				}
			}
			if got, ok := reg.Get(l, n); got != want || ok != there {
				t.Errorf("Get(%v, %d): %v, %t", l, n, got, ok)
			}
		}
	}
	l := list{{Name: '"', Text: "a"}, {Name: 'q', Lines: true, Text: "b\nc"}}
	for _, x := range []struct {
		n    int
		want api.Reg
		ok   bool
	}{
		{0, l[0], true}, {'"', l[0], true}, {'q', l[1], true}, {'Q', l[1], true},
		{'p', api.Reg{}, false}, {'R', api.Reg{}, false}, {'0', api.Reg{}, false}, {'!', api.Reg{}, false}, {-1, api.Reg{}, false},
	} {
		if got, ok := reg.Get(l, x.n); got != x.want || ok != x.ok {
			t.Errorf("Get(%d): %v, %t", x.n, got, ok)
		}
	}
}

// P21.1: of registers that may not be there is none.
func TestGetOfWrong(t *testing.T) {
	for _, l := range wrongs() {
		names := append(noNames(), 0, '"', '-', '0', '9', 'a', 'A', 'm', 'z')
		for _, r := range l {
			names = append(names, r.Name)
		}
		for _, n := range names {
			if got, ok := reg.Get(l, n); got != (api.Reg{}) || ok {
				t.Errorf("Get(%v, %d): %v, %t", l, n, got, ok)
			}
		}
	}
}

// P21.2: the chapter's example: a text, and another one added to it.
func TestExample(t *testing.T) {
	l, e := reg.Yank(nil, 'a', "x", false)
	if e != api.OK {
		t.Fatal(e)
	}
	tells(t, ways()[0], l, 'A', "y", false, list{{Name: '"', Text: "xy"}, {Name: 'a', Text: "xy"}})
}

// P21.2: what is yanked, by hand: to the plain register, by both its numbers, it is in 0, too, and nowhere else.
func TestYank(t *testing.T) {
	y := ways()[0]
	for _, n := range []int{0, '"'} {
		tells(t, y, nil, n, "x", false, list{{Name: '"', Text: "x"}, {Name: '0', Text: "x"}})
		tells(t, y, list{}, n, "", false, list{{Name: '"'}, {Name: '0'}})
		tells(t, y, nil, n, "x", true, list{{Name: '"', Lines: true, Text: "x"}, {Name: '0', Lines: true, Text: "x"}})
		tells(t, y, nil, n, "x\ny", false, list{{Name: '"', Text: "x\ny"}, {Name: '0', Text: "x\ny"}})
		// What was there is lost, not added to, and others stay.
		l := list{{Name: '"', Lines: true, Text: "p"}, {Name: '-', Text: "s"}, {Name: '0', Lines: true, Text: "n"}, {Name: '1', Text: "1"}, {Name: 'a', Text: "a"}}
		tells(t, y, l, n, "x", false, list{{Name: '"', Text: "x"}, l[1], {Name: '0', Text: "x"}, l[3], l[4]})
		tells(t, y, l[1:2], n, "x", false, list{{Name: '"', Text: "x"}, l[1], {Name: '0', Text: "x"}})
	}
	// To one with a name it is there, and in the plain one.
	for _, n := range []int{'-', '0', '1', '5', '9', 'a', 'm', 'z'} {
		for _, w := range ways() {
			tells(t, w, nil, n, "x\n", true, list{{Name: '"', Lines: true, Text: "x\n"}, {Name: n, Lines: true, Text: "x\n"}})
			tells(t, w, list{{Name: '"', Text: "p"}, {Name: n, Lines: true, Text: "q"}}, n, "x", false, list{{Name: '"', Text: "x"}, {Name: n, Text: "x"}})
		}
	}
	l := list{{Name: '"', Text: "p"}, {Name: '0', Text: "n"}, {Name: '1', Text: "1"}, {Name: 'b', Text: "b"}}
	for _, w := range ways() {
		tells(t, w, l, 'a', "x", true, list{{Name: '"', Lines: true, Text: "x"}, l[1], l[2], {Name: 'a', Lines: true, Text: "x"}, l[3]})
		tells(t, w, l, 'c', "x", true, list{{Name: '"', Lines: true, Text: "x"}, l[1], l[2], l[3], {Name: 'c', Lines: true, Text: "x"}})
		tells(t, w, l, '-', "x", false, list{{Name: '"', Text: "x"}, {Name: '-', Text: "x"}, l[1], l[2], l[3]})
		tells(t, w, l, '1', "x\ny", false, list{{Name: '"', Text: "x\ny"}, l[1], {Name: '1', Text: "x\ny"}, l[3]})
	}
}

// P21.2, P21.3: what is added to a register, by hand: to one that is there, lines or not, and to none.
func TestAdd(t *testing.T) {
	for _, x := range []struct {
		old   api.Reg
		text  string
		lines bool
		want  api.Reg
	}{
		{api.Reg{Text: "x"}, "y", false, api.Reg{Text: "xy"}},
		{api.Reg{Text: "x"}, "y", true, api.Reg{Lines: true, Text: "x\ny"}},
		{api.Reg{Lines: true, Text: "x"}, "y", false, api.Reg{Lines: true, Text: "x\ny"}},
		{api.Reg{Lines: true, Text: "x"}, "y", true, api.Reg{Lines: true, Text: "x\ny"}},
		// Nothing is something: an old text, or a new one, of no bytes.
		{api.Reg{}, "", false, api.Reg{}},
		{api.Reg{}, "y", false, api.Reg{Text: "y"}},
		{api.Reg{}, "y", true, api.Reg{Lines: true, Text: "\ny"}},
		{api.Reg{Lines: true}, "", false, api.Reg{Lines: true, Text: "\n"}},
		{api.Reg{Lines: true}, "", true, api.Reg{Lines: true, Text: "\n"}},
		{api.Reg{Text: "x"}, "", false, api.Reg{Text: "x"}},
		{api.Reg{Text: "x"}, "", true, api.Reg{Lines: true, Text: "x\n"}},
		// Line feeds alone are not lines, and are not minded.
		{api.Reg{Text: "x\n"}, "\ny", false, api.Reg{Text: "x\n\ny"}},
		{api.Reg{Text: "x\n"}, "\ny", true, api.Reg{Lines: true, Text: "x\n\n\ny"}},
		{api.Reg{Text: "\u00e9"}, "\u20ac", false, api.Reg{Text: "\u00e9\u20ac"}},
	} {
		named := func(r api.Reg, name int) api.Reg {
			r.Name = name
			return r
		}
		for _, w := range ways() {
			for n := int('A'); n <= 'Z'; n++ {
				name := n + 32
				both := list{named(x.want, '"'), named(x.want, name)}
				tells(t, w, list{named(x.old, name)}, n, x.text, x.lines, both)
				// What the plain one had is of no matter, nor what another one has.
				others := list{{Name: '"', Lines: true, Text: "p"}, {Name: '0', Lines: true, Text: "n"}, named(x.old, name)}
				tells(t, w, others, n, x.text, x.lines, list{both[0], others[1], both[1]})
				// Where there is none, it is as if it were not added.
				fresh := api.Reg{Lines: x.lines, Text: x.text}
				tells(t, w, nil, n, x.text, x.lines, list{named(fresh, '"'), named(fresh, name)})
			}
		}
	}
}

// P21.3: what is deleted, by hand: within a line to the small one, else to 1, and what was there one further on.
func TestDelete(t *testing.T) {
	d := ways()[1]
	for _, n := range []int{0, '"'} {
		tells(t, d, nil, n, "x", false, list{{Name: '"', Text: "x"}, {Name: '-', Text: "x"}})
		tells(t, d, nil, n, "", false, list{{Name: '"'}, {Name: '-'}})
		tells(t, d, nil, n, "x", true, list{{Name: '"', Lines: true, Text: "x"}, {Name: '1', Lines: true, Text: "x"}})
		tells(t, d, nil, n, "", true, list{{Name: '"', Lines: true}, {Name: '1', Lines: true}})
		tells(t, d, nil, n, "x\r\u2028\x00", false, list{{Name: '"', Text: "x\r\u2028\x00"}, {Name: '-', Text: "x\r\u2028\x00"}})
		for _, s := range []string{"\n", "x\n", "\nx", "x\ny"} {
			tells(t, d, nil, n, s, false, list{{Name: '"', Text: s}, {Name: '1', Text: s}})
		}
		l := list{{Name: '"', Text: "p"}, {Name: '-', Text: "s"}, {Name: '0', Text: "n"}, {Name: '1', Text: "1"}, {Name: '2', Lines: true, Text: "2"}, {Name: '4', Text: "4"}, {Name: '8', Text: "8"}, {Name: '9', Text: "9"}, {Name: 'a', Text: "a"}}
		// What is within a line leaves 1 to 9 alone, what is not the small one, and both of them what was yanked last.
		small := slices.Clone(l)
		small[0].Text, small[1].Text = "x", "x"
		tells(t, d, l, n, "x", false, small)
		tells(t, d, l, n, "x", true, list{
			{Name: '"', Lines: true, Text: "x"}, l[1], l[2], {Name: '1', Lines: true, Text: "x"}, {Name: '2', Text: "1"}, {Name: '3', Lines: true, Text: "2"}, {Name: '5', Text: "4"}, {Name: '9', Text: "8"}, l[8],
		})
		tells(t, d, list{{Name: '9', Text: "9"}}, n, "x\n", false, list{{Name: '"', Text: "x\n"}, {Name: '1', Text: "x\n"}})
		tells(t, d, list{{Name: '8', Text: "8"}}, n, "x\n", false, list{{Name: '"', Text: "x\n"}, {Name: '1', Text: "x\n"}, {Name: '9', Text: "8"}})
		tells(t, d, list{{Name: '0', Text: "n"}, {Name: 'a', Text: "a"}}, n, "x\n", false, list{{Name: '"', Text: "x\n"}, {Name: '0', Text: "n"}, {Name: '1', Text: "x\n"}, {Name: 'a', Text: "a"}})
	}
}

// P21.3: whichever of 1 to 9 there are, each goes one further on.
func TestAge(t *testing.T) {
	for set := range 1 << 9 {
		l := list{{Name: '-', Text: "s"}, {Name: '0', Lines: true, Text: "n"}}
		for k := range 9 {
			if set>>k&1 != 0 {
				l = append(l, api.Reg{Name: '1' + k, Lines: k%2 == 0, Text: "of " + string(all[3+k])})
			}
		}
		l = append(l, api.Reg{Name: 'a', Text: "a"})
		for _, w := range ways() {
			for _, n := range []int{0, '"', '1', '9', 'a', 'A'} {
				for _, text := range []string{"x", "x\n"} {
					for _, lines := range []bool{false, true} {
						want, _ := wantKept(l, n, text, lines, w.deletes)
						tells(t, w, l, n, text, lines, want)
					}
				}
			}
		}
	}
}

// P21.2, P21.3: with each number, each text and many registers, against the chapter's words.
func TestEachName(t *testing.T) {
	for _, l := range rights() {
		for _, n := range numbers() {
			for _, text := range []string{"", "a", "d\n"} {
				for _, lines := range []bool{false, true} {
					for _, w := range ways() {
						want, err := wantKept(l, n, text, lines, w.deletes)
						if err != api.OK {
							refuses(t, w, l, n, text, lines, err)
							continue
						}
						tells(t, w, l, n, text, lines, want)
					}
				}
			}
		}
	}
}

// P21.2, P21.3: what is refused, and which error comes first.
func TestErrors(t *testing.T) {
	long := strings.Repeat("a", api.MaxText+1)
	some := []int{0, '"', '-', '0', '1', 'a', 'A', 'Z'}
	for _, w := range ways() {
		for _, l := range rights() {
			for _, s := range append(notValid(), long+"\xff") {
				for _, n := range append(noNames(), some...) {
					refuses(t, w, l, n, s, false, api.ErrArg)
					refuses(t, w, l, n, s, true, api.ErrArg)
				}
			}
			for _, n := range noNames() {
				for _, s := range append(texts(), long) {
					refuses(t, w, l, n, s, false, api.ErrName)
					refuses(t, w, l, n, s, true, api.ErrName)
				}
			}
			for _, n := range some {
				refuses(t, w, l, n, long, false, api.ErrRoom)
				refuses(t, w, l, n, long, true, api.ErrRoom)
			}
		}
		for _, l := range wrongs() {
			for _, n := range []int{0, '"', '0', 'a', 'A', '!', -1} {
				for _, s := range []string{"", "a\n", long, "\xff"} {
					refuses(t, w, l, n, s, n == 0, api.ErrArg)
				}
			}
		}
	}
}

// P21.2, P21.3: texts of just MaxText bytes are kept, longer ones not, be they whole or added, with the line feed between.
func TestRoom(t *testing.T) {
	most := strings.Repeat("a", api.MaxText)
	euros := strings.Repeat("\u20ac", api.MaxText/3) + "a"
	for _, w := range ways() {
		for _, n := range []int{0, '"', '-', '0', '9', 'a', 'A', 'z'} {
			for _, s := range []string{most, euros, most[1:] + "\n"} {
				for _, lines := range []bool{false, true} {
					want, _ := wantKept(nil, n, s, lines, w.deletes)
					tells(t, w, nil, n, s, lines, want)
					refuses(t, w, nil, n, s+"a", lines, api.ErrRoom)
					refuses(t, w, nil, n, s+s, lines, api.ErrRoom)
				}
			}
		}
		for _, old := range []int{0, 1, 2, api.MaxText / 2, api.MaxText - 2, api.MaxText - 1, api.MaxText} {
			left := api.MaxText - old
			for _, was := range []bool{false, true} {
				l := list{{Name: 'q', Lines: was, Text: most[:old]}}
				for _, lines := range []bool{false, true} {
					if was || lines {
						left = api.MaxText - old - 1
					}
					if left >= 0 {
						whole := most[:old] + "\n" + most[:left]
						if !was && !lines {
							whole = most
						}
						tells(t, w, l, 'Q', most[:left], lines, list{{Name: '"', Lines: was || lines, Text: whole}, {Name: 'q', Lines: was || lines, Text: whole}})
					}
					refuses(t, w, l, 'Q', strings.Repeat("a", left+1), lines, api.ErrRoom)
					// In the place of what is there, or beside it, it has room.
					for _, n := range []int{'q', 'R', 0} {
						want, _ := wantKept(l, n, most, lines, w.deletes)
						tells(t, w, l, n, most, lines, want)
					}
				}
			}
		}
	}
}

// other tells whether a register is not one of these names.
func other(r api.Reg, names ...int) bool {
	return !slices.Contains(names, r.Name)
}

// P21.4: whatever is kept, one behind the other: it is got, others stay, and all answers may be.
func TestAlike(t *testing.T) {
	r := rand.New(rand.NewSource(214))
	names := append([]int{0, '"', 0, '"', 0, '"', 0, '"', '!'}, numbers()...)
	for range 50 {
		l := list(nil)
		for step := range 200 {
			n := names[r.Intn(9)]
			if r.Intn(2) == 0 {
				n = int("\"-0123456789abcABC"[r.Intn(18)])
			}
			if r.Intn(8) == 0 {
				n = names[r.Intn(len(names))]
			}
			text, lines, w := texts()[r.Intn(len(texts()))], r.Intn(3) == 0, ways()[r.Intn(2)]
			if r.Intn(40) == 0 {
				text = strings.Repeat("a", api.MaxText-r.Intn(20))
			}
			got, e := w.call(l, n, text, lines)
			want, err := wantKept(l, n, text, lines, w.deletes)
			if e != err || !slices.Equal(got, want) || !reg.Right(got) || !wantRight(got) {
				t.Fatalf("step %d: %s(%v, %d, %q, %t): %v, error %d, not %v, error %d", step, w.name, l, n, text, lines, got, e, want, err)
			}
			if e != api.OK {
				continue
			}
			kept, ok := reg.Get(got, n)
			if !ok || !strings.HasSuffix(kept.Text, text) || lines && !kept.Lines {
				t.Fatalf("step %d: %s(%v, %d, %q, %t): %v, %t", step, w.name, l, n, text, lines, kept, ok)
			}
			if plain, ok := reg.Get(got, 0); !ok || plain.Text != kept.Text || plain.Lines != kept.Lines {
				t.Fatalf("step %d: %s(%v, %d, %q, %t): %v, %t, not %v", step, w.name, l, n, text, lines, plain, ok, kept)
			}
			for _, c := range all {
				moved := strings.ContainsRune("-0123456789", c) && reg.Name(n) == '"'
				was, there := reg.Get(l, int(c))
				if is, ok := reg.Get(got, int(c)); !moved && other(api.Reg{Name: int(c)}, reg.Name(n), '"') && (is != was || ok != there) {
					t.Fatalf("step %d: %s(%v, %d, %q, %t): %v, %t, not %v, %t", step, w.name, l, n, text, lines, is, ok, was, there)
				}
			}
			l = got
		}
	}
}

// P21.4: in whatever order they are kept, the registers are the same; kept once more as well.
func TestOrder(t *testing.T) {
	r := rand.New(rand.NewSource(2142))
	for range 100 {
		for _, w := range ways() {
			l := list(nil)
			for _, i := range r.Perm(len(all) - 1) {
				x := full()[i+1]
				kept, e := w.call(l, x.Name, x.Text, x.Lines)
				if e != api.OK {
					t.Fatalf("%v: error %d", x, e)
				}
				l = kept
			}
			if len(l) != len(all) || !slices.Equal(l[1:], full()[1:]) {
				t.Fatalf("%v", l)
			}
			x := full()[r.Intn(len(all)-1)+1]
			again, e := w.call(l, x.Name, x.Text, x.Lines)
			if e != api.OK || !slices.Equal(again[1:], l[1:]) || again[0].Text != x.Text {
				t.Fatalf("%v: %v, error %d", x, again, e)
			}
		}
	}
}

// What is handed in stays as it was, and so does what stands behind its end.
func TestListsStay(t *testing.T) {
	for size := range len(all) + 1 {
		l := full()
		for n := -1; n < 128; n++ {
			reg.Get(l[:size], n)
			for _, w := range ways() {
				w.call(l[:size], n, "x", false)
				w.call(l[:size], n, "x\ny", true)
			}
		}
		if !slices.Equal(l, full()) {
			t.Errorf("the first %d: %v", size, l)
		}
	}
	for _, l := range wrongs() {
		was := slices.Clone(l)
		for _, w := range ways() {
			w.call(l, 0, "x\n", true)
			w.call(l, 'A', "x", false)
		}
		reg.Right(l)
		if !slices.Equal(l, was) {
			t.Errorf("%v, not %v", l, was)
		}
	}
}

// An answer is new memory: what is written into it, up to all its room, is not to be seen in what was handed in, nor in another answer.
func TestAnswersAreNew(t *testing.T) {
	for size := range len(all) + 1 {
		l := full()
		for n := range 128 {
			for _, w := range ways() {
				first, _ := w.call(l[:size], n, "x\ny", false)
				second, _ := w.call(l[:size], n, "x\ny", false)
				was := slices.Clone(second)
				first = first[:cap(first)]
				for i := range first {
					first[i] = api.Reg{Name: -1, Text: "spoilt"}
				}
				if !slices.Equal(l, full()) || !slices.Equal(second, was) {
					t.Fatalf("the first %d, %s to %d: %v", size, w.name, n, l)
				}
			}
		}
	}
}

// overlap tells whether two texts lie in the same memory.
func overlap(a, b string) bool {
	from, to := uintptr(unsafe.Pointer(unsafe.StringData(a))), uintptr(unsafe.Pointer(unsafe.StringData(b)))
	return a != "" && b != "" && from < to+uintptr(len(b)) && to < from+uintptr(len(a))
}

// An answer is new memory: its texts lie elsewhere than those that were handed in, be they new or as they were, and each on its own.
func TestTextsAreNew(t *testing.T) {
	l, text := full(), "x\ny"
	for n := range 128 {
		if r, ok := reg.Get(l, n); ok && slices.ContainsFunc(l, func(was api.Reg) bool { return overlap(was.Text, r.Text) }) {
			t.Errorf("Get of %d: %v", n, r)
		}
		for _, w := range ways() {
			for size := range len(all) + 1 {
				answer, _ := w.call(l[:size], n, text, true)
				for i, r := range answer {
					if overlap(r.Text, text) || slices.ContainsFunc(l, func(was api.Reg) bool { return overlap(was.Text, r.Text) }) {
						t.Fatalf("%s to %d of the first %d: %v", w.name, n, size, r)
					}
					if slices.ContainsFunc(answer[:i], func(x api.Reg) bool { return overlap(x.Text, r.Text) }) {
						t.Fatalf("%s to %d of the first %d: %v, as another one", w.name, n, size, r)
					}
				}
			}
		}
	}
}

// What is told of a part of a list hangs on nothing that stands behind its end.
func TestPartOfList(t *testing.T) {
	l := append(full(), api.Reg{Name: 'A', Text: "\xff"})
	for size := range len(all) + 1 {
		if !reg.Right(l[:size]) {
			t.Errorf("the first %d may not be", size)
		}
		for i, c := range all {
			if r, ok := reg.Get(l[:size], int(c)); ok != (i < size) || ok && r != l[i] {
				t.Errorf("the first %d, %c: %v, %t", size, c, r, ok)
			}
			for _, w := range ways() {
				want, _ := wantKept(full()[:size], int(c), "x\n", true, w.deletes)
				tells(t, w, l[:size], int(c), "x\n", true, want)
			}
		}
	}
	if reg.Right(l) {
		t.Error("all may be")
	}
}

// What is told hangs on nothing that was asked ahead.
func TestNothingIsKept(t *testing.T) {
	l := list{{Name: '1', Text: "1"}, {Name: 'a', Text: "a"}}
	for _, o := range append(rights(), wrongs()[:20]...) {
		for _, w := range ways() {
			w.call(o, 0, "y\n", true)
			w.call(o, 'A', "y", false)
			tells(t, w, l, 'A', "x", false, list{{Name: '"', Text: "ax"}, l[0], {Name: 'a', Text: "ax"}})
		}
		tells(t, ways()[0], l, 0, "x", false, list{{Name: '"', Text: "x"}, {Name: '0', Text: "x"}, l[0], l[1]})
		tells(t, ways()[1], l, 0, "x", true, list{{Name: '"', Lines: true, Text: "x"}, {Name: '1', Lines: true, Text: "x"}, {Name: '2', Text: "1"}, l[1]})
		if _, ok := reg.Get(l, 0); ok {
			t.Error("the plain one is there")
		}
	}
}
